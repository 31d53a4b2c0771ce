package tree

import (
	"bytes"
	"slices"

	"commonhold/api"
)

// node: of a tree. A leaf has entries, another node has kids. Which keys lie in a kid is told by the least one there, so that no keys are kept beside the kids.
type node struct {
	entries []api.Entry
	kids    []node
}

// fewest: how many entries or kids each node but the root has at least.
const fewest = (api.MaxFan + 1) / 2

func (n node) isLeaf() bool {
	return len(n.kids) == 0
}

// size: how many entries or kids there are.
func (n node) size() int {
	return len(n.entries) + len(n.kids)
}

// least: the least key below a node that is not empty, as none but a root is.
func (n node) least() []byte {
	for !n.isLeaf() {
		n = n.kids[0]
	}
	return n.entries[0].Key
}

// find: where in a leaf a key stands, or would stand, and whether it is there.
func (n node) find(key []byte) (int, bool) {
	return slices.BinarySearchFunc(n.entries, key, func(e api.Entry, key []byte) int { return bytes.Compare(e.Key, key) })
}

// kidOf: the place of the kid in which a key lies, or would lie.
func (n node) kidOf(key []byte) int {
	place := 0
	for place+1 < len(n.kids) && bytes.Compare(n.kids[place+1].least(), key) <= 0 {
		place++
	}
	return place
}

// replaced: a new list, with others in place of those from one place on, ahead of another one.
func replaced[T any](l []T, from, to int, others ...T) []T {
	return slices.Concat(l[:from], others, l[to:])
}

// halves: a list that one node has room for, as it is; of a longer one its two halves.
func halves[T any](l []T) [][]T {
	if len(l) <= api.MaxFan {
		return [][]T{l}
	}
	half := len(l) / 2
	return [][]T{l[:half], l[half:]}
}

// split: the node as it is, or as two, if it is too full.
func (n node) split() []node {
	var made []node
	if n.isLeaf() {
		for _, entries := range halves(n.entries) {
			made = append(made, node{entries: entries})
		}
		return made
	}
	for _, kids := range halves(n.kids) {
		made = append(made, node{kids: kids})
	}
	return made
}

// with: the node, or the two nodes, that have an entry more, or another value where its key is there.
func (n node) with(e api.Entry) []node {
	if n.isLeaf() {
		from, there := n.find(e.Key)
		to := from
		if there {
			to++
		}
		return node{entries: replaced(n.entries, from, to, e)}.split()
	}
	place := n.kidOf(e.Key)
	return node{kids: replaced(n.kids, place, place+1, n.kids[place].with(e)...)}.split()
}

// without: the node without a key that is there. It may have one entry or kid less than the fewest; of its kids none has.
func (n node) without(key []byte) node {
	if n.isLeaf() {
		at, _ := n.find(key)
		return node{entries: replaced(n.entries, at, at+1)}
	}
	place := n.kidOf(key)
	kid := n.kids[place].without(key)
	kids := replaced(n.kids, place, place+1, kid)
	if kid.size() >= fewest {
		return node{kids: kids}
	}
	// A kid with too few is joined with the one ahead of it; ahead of the first kid there is none, so that it is joined with the next one.
	left := max(place-1, 0)
	return node{kids: replaced(kids, left, left+2, joined(kids[left], kids[left+1])...)}
}

// joined: what lies in two nodes next to each other, as one node, or, if that has no room for it, halved again.
func joined(a, b node) []node {
	return node{entries: slices.Concat(a.entries, b.entries), kids: slices.Concat(a.kids, b.kids)}.split()
}

// topped: the root of the tree: n, or, as a root has no single kid, that kid.
func (n node) topped() node {
	if len(n.kids) == 1 {
		return n.kids[0]
	}
	return n
}
