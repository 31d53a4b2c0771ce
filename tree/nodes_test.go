package tree

import (
	"bytes"
	"fmt"
	"math"
	"math/rand"
	"slices"
	"strings"
	"testing"

	"commonhold/api"
)

// walker: goes through the nodes of an answer, and notes what is not as P13.2 says.
type walker struct {
	nodes  []api.Node
	level  []int // of each node, from 1 on; 0: it was not met yet
	leaf   int   // the level of the leaves; 0: none was met yet
	all    []api.Entry
	faults []string
}

func (w *walker) fault(place int, text string) {
	w.faults = append(w.faults, fmt.Sprintf("node %d: %s", place, text))
}

// walk: what lies in a node, and below it.
func (w *walker) walk(place, level int) []api.Entry {
	n := w.nodes[place]
	w.level[place] = level
	if size := max(len(n.Entries), len(n.Kids)); size > 4 || place > 0 && size < 2 {
		w.fault(place, "too full, or not full enough")
	}
	if len(n.Kids) == 0 {
		w.leafAt(place, level)
		return n.Entries
	}
	if len(n.Kids) < 2 || len(n.Entries) > 0 || len(n.Keys) != len(n.Kids)-1 {
		w.fault(place, "not of the form")
		return nil
	}
	var all []api.Entry
	for i, kid := range n.Kids {
		if kid <= place || kid >= len(w.nodes) || w.level[kid] > 0 {
			w.fault(place, "no such kid, not behind it, or met already")
			return nil
		}
		in := w.walk(kid, level+1)
		for _, e := range in {
			if i > 0 && bytes.Compare(e.Key, n.Keys[i-1]) < 0 || i < len(n.Keys) && bytes.Compare(e.Key, n.Keys[i]) >= 0 {
				w.fault(kid, "what lies in it does not lie between the keys")
			}
		}
		all = append(all, in...)
	}
	return all
}

func (w *walker) leafAt(place, level int) {
	n := w.nodes[place]
	if len(n.Keys) > 0 {
		w.fault(place, "a leaf with keys")
	}
	if w.leaf > 0 && w.leaf != level {
		w.fault(place, "leaves on several levels")
	}
	w.leaf = level
	w.all = append(w.all, n.Entries...)
}

// faultsOf: what of nodes is not as P13.2 says, for a version with these entries.
func faultsOf(nodes []api.Node, want []api.Entry) []string {
	if len(nodes) == 0 {
		return []string{"no root"}
	}
	w := walker{nodes: nodes, level: make([]int, len(nodes))}
	w.walk(0, 1)
	if slices.Contains(w.level, 0) {
		w.faults = append(w.faults, "a node that is no kid")
	}
	if !sameEntries(w.all, want) {
		w.faults = append(w.faults, "other entries")
	}
	if n := len(want); w.leaf > 1 && 1<<w.leaf > n {
		w.faults = append(w.faults, "leaves too deep")
	}
	return w.faults
}

// leafOf: a leaf with these keys, whose values are as they are.
func leafOf(keys ...string) api.Node {
	var n api.Node
	for _, k := range keys {
		n.Entries = append(n.Entries, api.Entry{Key: []byte(k), Value: []byte(k)})
	}
	return n
}

// above: a node with these kids, and these keys between them.
func above(kids []int, keys ...string) api.Node {
	n := api.Node{Kids: kids}
	for _, k := range keys {
		n.Keys = append(n.Keys, []byte(k))
	}
	return n
}

// The check itself finds each thing that it is there for.
func TestChecksFindFaults(t *testing.T) {
	ab, cd, ef, gh := leafOf("a", "b"), leafOf("c", "d"), leafOf("e", "f"), leafOf("g", "h")
	four, eight := leafOf("a", "b", "c", "d").Entries, slices.Concat(ab.Entries, cd.Entries, ef.Entries, gh.Entries)
	right := []struct {
		nodes []api.Node
		want  []api.Entry
	}{
		{[]api.Node{{}}, nil}, {[]api.Node{leafOf("a")}, four[:1]}, {[]api.Node{leafOf("a", "b", "c", "d")}, four},
		{[]api.Node{above([]int{1, 2}, "c"), ab, cd}, four}, {[]api.Node{above([]int{2, 1}, "bb"), cd, ab}, four},
		{[]api.Node{above([]int{1, 2, 3, 4}, "c", "e", "g"), ab, cd, ef, gh}, eight},
		{[]api.Node{above([]int{1, 2}, "e"), above([]int{3, 4}, "c"), above([]int{5, 6}, "g"), ab, cd, ef, gh}, eight},
	}
	for _, x := range right {
		if l := faultsOf(x.nodes, x.want); len(l) > 0 {
			t.Errorf("%s: %s", brief(x.nodes), brief(l))
		}
	}
	for i, x := range []struct {
		nodes []api.Node
		want  []api.Entry
	}{
		{nil, nil}, {[]api.Node{{}, {}}, nil}, {[]api.Node{leafOf("a")}, nil}, {[]api.Node{leafOf("b", "a")}, four[:2]}, {[]api.Node{leafOf("a", "b", "c", "d", "e")}, eight[:5]},
		{[]api.Node{above(nil, "a")}, nil}, {[]api.Node{above([]int{1}), ab}, four[:2]}, {[]api.Node{above([]int{1, 2}), ab, cd}, four}, {[]api.Node{above([]int{1, 2}, "c", "e"), ab, cd}, four},
		{[]api.Node{above([]int{1, 2}, "b"), ab, cd}, four}, {[]api.Node{above([]int{1, 2}, "cc"), ab, cd}, four}, {[]api.Node{above([]int{1, 1}, "c"), ab, cd}, four}, {[]api.Node{above([]int{1, 3}, "c"), ab, cd}, four},
		{[]api.Node{above([]int{0, 1}, "c"), ab}, four}, {[]api.Node{above([]int{1, -1}, "c"), ab, cd}, four}, {[]api.Node{above([]int{1, 2}, "c"), ab, cd, ef}, four}, {[]api.Node{above([]int{2, 1}, "c"), ab, cd}, four},
		{[]api.Node{above([]int{1, 2}, "c"), ab, leafOf("c")}, four[:3]}, {[]api.Node{above([]int{1, 2}, "c"), ab, {Entries: cd.Entries, Keys: [][]byte{{1}}}}, four},
		{[]api.Node{{Entries: ab.Entries, Kids: []int{1, 2}, Keys: [][]byte{[]byte("c")}}, ab, cd}, four},
		{[]api.Node{above([]int{1, 2}, "e"), above([]int{3, 4}, "c"), ef, ab, cd}, eight[:6]},
		{[]api.Node{above([]int{1, 2}, "d"), above([]int{3, 4}, "c"), above([]int{5, 6}, "g"), ab, cd, ef, gh}, eight},
		{[]api.Node{above([]int{1, 2, 3, 4, 5}, "c", "e", "g", "i"), ab, cd, ef, gh, leafOf("i", "j")}, append(eight, leafOf("i", "j").Entries...)},
	} {
		if len(faultsOf(x.nodes, x.want)) == 0 {
			t.Errorf("example %d: %s: no fault is found", i, brief(x.nodes))
		}
	}
}

// checkNodes: each version of deeds, node by node; what was handed in stays, and nothing of it is shared.
func checkNodes(t *testing.T, l []api.Deed) {
	t.Helper()
	_, f := wanted(l)
	x := roomyDeeds(l)
	kept := toldOf(x)
	for version, want := range f {
		nodes, code := Nodes(x, version)
		if faults := faultsOf(nodes, want); code != api.OK || len(faults) > 0 {
			t.Errorf("Nodes(%s, %d): %s, %d: %s", brief(l), version, brief(nodes), code, brief(faults))
		}
		again, _ := Nodes(x, version)
		if sharing(nodes) || sharingWith(nodes, x) || sharingWith(nodes, again) {
			t.Errorf("Nodes(%s, %d): %s shares memory", brief(l), version, brief(nodes))
		}
	}
	if toldOf(x) != kept {
		t.Errorf("%s is now %s", brief(l), brief(x))
	}
	for _, version := range noVersions(len(f) - 1) {
		if version < 0 || version >= len(f) {
			noNodes(t, l, version, api.ErrRange)
		}
	}
}

func noNodes(t *testing.T, l []api.Deed, version int, code api.Errno) {
	t.Helper()
	if nodes, e := Nodes(l, version); len(nodes) > 0 || e != code {
		t.Errorf("Nodes(%s, %d): %s, %d; want %d", brief(l), version, brief(nodes), e, code)
	}
}

// P13.2: Version 0 is a leaf without entries, whatever is done.
func TestNodesOfNone(t *testing.T) {
	for _, l := range [][]api.Deed{nil, {}, deeds(put(0, "a", "b")), inRow(counted(40)...), deeds(api.Deed{}, put(9, "a", ""), scanAll(0))} {
		nodes, code := Nodes(l, 0)
		if code != api.OK || len(nodes) != 1 || len(nodes[0].Entries)+len(nodes[0].Keys)+len(nodes[0].Kids) > 0 {
			t.Errorf("Nodes(%s, 0): %s, %d", brief(l), brief(nodes), code)
		}
		checkNodes(t, l)
	}
	noNodes(t, nil, 1, api.ErrRange)
	noNodes(t, nil, -1, api.ErrRange)
	noNodes(t, deeds(put(0, "a", "b")), 2, api.ErrRange)
}

// P13.2: MaxPlay deeds, and one more; that comes ahead of a version that is not there.
func TestNodesSize(t *testing.T) {
	l := inRow(counted(api.MaxPlay)...)
	_, f := wanted(l)
	nodes, code := Nodes(l, api.MaxPlay)
	if faults := faultsOf(nodes, f[api.MaxPlay]); code != api.OK || len(faults) > 0 {
		t.Errorf("Nodes of MaxPlay deeds: %s, %d: %s", brief(nodes), code, brief(faults))
	}
	noNodes(t, l, api.MaxPlay+1, api.ErrRange)
	noNodes(t, l, -1, api.ErrRange)
	for _, l := range [][]api.Deed{inRow(counted(api.MaxPlay + 1)...), make([]api.Deed, api.MaxPlay+1), make([]api.Deed, 1<<16)} {
		for _, version := range []int{0, 1, api.MaxPlay, api.MaxPlay + 1, api.MaxPlay + 2, -1, math.MinInt64, math.MaxInt64} {
			noNodes(t, l, version, api.ErrSize)
		}
	}
	for _, d := range deeds(api.Deed{}, scanAll(0), lookUp(0, "a"), drop(0, "a"), put(0, "", "")) {
		checkNodes(t, slices.Repeat(deeds(d), api.MaxPlay))
	}
}

// P13.2: what one leaf has room for, and one entry more.
func TestNodesOfFew(t *testing.T) {
	checkNodes(t, deeds(put(0, "a", "")))
	checkNodes(t, deeds(put(0, "a", "1"), put(1, "a", "2"), put(2, "a", "3"), put(3, "a", "4"), put(4, "a", "5"), put(5, "a", "6")))
	for n := range 30 {
		checkNodes(t, inRow(counted(n)...))
	}
	// Two leaves have four entries at least, and one has no room for five.
	for size, want := range []int{1, 1, 1, 1, 0, 3} {
		if nodes, _ := Nodes(inRow(counted(5)...), size); want > 0 && len(nodes) != want {
			t.Errorf("Nodes of %d entries: %s", size, brief(nodes))
		}
	}
}

// P13.2: deeds some of which are refused, and some of which only read.
func TestNodesBehindRefusals(t *testing.T) {
	var l []api.Deed
	for i, key := range shuffled(rand.New(rand.NewSource(13)), counted(60)) {
		long := strings.Repeat("a", api.MaxBody+1)
		l = append(l, put(i+1, key, ""), put(i, key, "1"), []api.Deed{{}, put(i, key, long), put(i, "", ""), drop(i, "z"), lookUp(i, "z"), lookUp(i+1, key), scanAll(i + 1), scanFrom(i, "", "", -1), {Kind: 5, Version: i}}[i%9])
	}
	want, f := wanted(l)
	if len(f) != 61 || want[0].Code != api.ErrRange {
		t.Fatalf("%d versions are wanted", len(f))
	}
	checkNodes(t, l)
}

// P13.2: many puts, in order, in the other order and in any order.
func TestNodesBehindPuts(t *testing.T) {
	keys := counted(150)
	back := slices.Clone(keys)
	slices.Reverse(back)
	random := rand.New(rand.NewSource(13))
	for _, order := range [][]string{keys, back, shuffled(random, keys), shuffled(random, keys), shuffled(random, keys)} {
		checkNodes(t, inRow(order...))
		// The same keys have other values then.
		checkNodes(t, inRow(append(order[:75:75], shuffled(random, order[:75])...)...))
	}
}

// P13.2: and behind many drops, until nothing is left.
func TestNodesBehindDrops(t *testing.T) {
	random := rand.New(rand.NewSource(13))
	for _, n := range []int{1, 2, 3, 4, 5, 6, 7, 8, 9, 10, 12, 17, 33, 90} {
		keys := counted(n)
		back := slices.Clone(keys)
		slices.Reverse(back)
		orders := [][]string{keys, back, shuffled(random, keys)}
		for _, order := range orders {
			for _, other := range orders {
				l := inRow(order...)
				for i, key := range other {
					l = append(l, drop(n+i, key))
				}
				checkNodes(t, l)
			}
		}
	}
}

// P13.2: each single key is dropped, of trees of each size.
func TestNodesBehindEachDrop(t *testing.T) {
	for n := 1; n <= 40; n++ {
		keys := counted(n)
		l := inRow(shuffled(rand.New(rand.NewSource(int64(n))), keys)...)
		for _, key := range keys {
			l = append(l, drop(n, key))
		}
		checkNodes(t, l)
	}
}

// P13.2: deeds of all kinds, of the last version and of older ones.
func TestNodesBehindAny(t *testing.T) {
	random := rand.New(rand.NewSource(13))
	for i := range 24 {
		checkNodes(t, someDeeds(random, random.Intn(200), []int{3, 9, 30, 150}[i%4]))
	}
}

// P13.2: long keys and values, keys one of which begins with the other, and bytes from 128 on.
func TestNodesOfLongKeys(t *testing.T) {
	var keys []string
	for i := range 20 {
		keys = append(keys, strings.Repeat("\xff", i+1), strings.Repeat("a", api.MaxKey-i), string([]byte{byte(13 * i), 0}))
	}
	l := inRow(shuffled(rand.New(rand.NewSource(13)), keys)...)
	for i := range l {
		l[i].Value = bytes.Repeat([]byte{byte(i)}, i*(api.MaxBody/len(l)))
	}
	l = append(l, put(len(l), strings.Repeat("a", api.MaxKey), strings.Repeat("\x80", api.MaxBody)))
	checkNodes(t, l)
}

// No version ever changes: its nodes behind all deeds are those behind the one that made it.
func TestNodesStay(t *testing.T) {
	random := rand.New(rand.NewSource(13))
	for range 10 {
		l := someDeeds(random, 120, 40)
		want, _ := wanted(l)
		for i, found := range want {
			if found.Version == 0 {
				continue
			}
			first, _ := Nodes(l[:i+1], found.Version)
			if last, code := Nodes(l, found.Version); code != api.OK || toldOf(first) != toldOf(last) {
				t.Errorf("Nodes of version %d: %s, then %s", found.Version, brief(first), brief(last))
			}
		}
	}
}

// Lists that are handed in may share memory with each other; what comes out does not.
func TestNodesOfDeedsThatShare(t *testing.T) {
	b := []byte(strings.Repeat("ab", 20))
	var l []api.Deed
	for i := range 20 {
		l = append(l, api.Deed{Kind: api.Put, Version: i, Key: b[i : 2*i+1], Value: b[:i]})
	}
	nodes, code := Nodes(l, 20)
	_, f := wanted(l)
	if faults := faultsOf(nodes, f[20]); code != api.OK || len(faults) > 0 || sharing(nodes) || sharingWith(nodes, l) {
		t.Errorf("Nodes(%s, 20): %s, %d: %s", brief(l), brief(nodes), code, brief(faults))
	}
	checkNodes(t, l)
}
