package tree

import (
	"bytes"
	"iter"

	"commonhold/api"
)

// entry: the one that has a key, if there is one.
func (n node) entry(key []byte) (api.Entry, bool) {
	for !n.isLeaf() {
		n = n.kids[n.kidOf(key)]
	}
	at, there := n.find(key)
	if !there {
		return api.Entry{}, false
	}
	return n.entries[at], true
}

// from: the entries whose keys are that key or greater, in their order.
func (n node) from(key []byte) iter.Seq[api.Entry] {
	return func(yield func(e api.Entry) bool) {
		at, _ := n.find(key)
		for _, e := range n.entries[at:] {
			if !yield(e) {
				return
			}
		}
		for _, kid := range n.kids[n.kidOf(key):] {
			for e := range kid.from(key) {
				if !yield(e) {
					return
				}
			}
		}
	}
}

func look(root node, key []byte) api.Found {
	e, there := root.entry(key)
	if !there {
		return refused(api.ErrNone)
	}
	return api.Found{Value: copied(e.Value)}
}

// scan: the entries within a range, at most so many. A High without bytes is no end.
func scan(root node, r api.Range, limit int) api.Found {
	if limit < 0 {
		return refused(api.ErrRange)
	}
	var l []api.Entry
	for e := range root.from(r.Low) {
		if len(l) == limit || len(r.High) > 0 && bytes.Compare(e.Key, r.High) >= 0 {
			break
		}
		l = append(l, copiedEntry(e))
	}
	return api.Found{Entries: l}
}

// listed: the nodes of the tree below n, level by level, as they are answered.
func (n node) listed() []api.Node {
	nodes := []node{n}
	var l []api.Node
	for at := 0; at < len(nodes); at++ {
		var told api.Node
		for _, e := range nodes[at].entries {
			told.Entries = append(told.Entries, copiedEntry(e))
		}
		for i, kid := range nodes[at].kids {
			if i > 0 {
				told.Keys = append(told.Keys, copied(kid.least()))
			}
			told.Kids = append(told.Kids, len(nodes))
			nodes = append(nodes, kid)
		}
		l = append(l, told)
	}
	return l
}

// copied: bytes of new memory. The trees keep hold of what was handed in, as long as a call lasts.
func copied(b []byte) []byte {
	return append([]byte(nil), b...)
}

func copiedEntry(e api.Entry) api.Entry {
	return api.Entry{Key: copied(e.Key), Value: copied(e.Value)}
}
