package row

import (
	"bytes"
	"fmt"
	"math/rand"
	"slices"
	"testing"

	"commonhold/api"
)

// checkFits: what Fits answers, with spare room and without; what was handed in stays.
func checkFits(t *testing.T, l []api.Table, snap []api.Entry, want bool) {
	t.Helper()
	for _, x := range [][]api.Table{l, roomyTables(l)} {
		for _, y := range [][]api.Entry{snap, roomyEntries(snap)} {
			kept := toldOf(x, y)
			if got := Fits(x, y); got != want {
				t.Errorf("Fits(%s, %s): %t", brief(l), brief(snap), got)
			}
			if toldOf(x, y) != kept {
				t.Errorf("Fits(%s, %s) changes what it is given", brief(l), brief(snap))
			}
		}
	}
}

// inOrder: a copy, by the keys.
func inOrder(l []api.Entry) []api.Entry {
	l = slices.Clone(l)
	slices.SortStableFunc(l, func(a, b api.Entry) int { return bytes.Compare(a.Key, b.Key) })
	return l
}

// snapOf: the entries of rows of several, by tables.
func snapOf(t *testing.T, rows ...[][]api.Value) []api.Entry {
	t.Helper()
	var snap []api.Entry
	for table, list := range rows {
		for _, row := range list {
			snap = append(snap, wantedOf(t, several(), table, row)...)
		}
	}
	return inOrder(snap)
}

// someSnap: entries of several rows of each table of several.
func someSnap(t *testing.T) []api.Entry {
	return snapOf(t,
		[][]api.Value{severalRow(0), rowWith(whole(6), words("x")), rowWith(whole(-6), null)},
		[][]api.Value{severalRow(1), rowWith(words("y"), truth(0), whole(-2)), rowWith(null, truth(1), whole(9))},
		[][]api.Value{severalRow(2), rowWith(whole(3), words(""), truth(0), whole(4)), rowWith(whole(2), words(zeros), truth(1), null)},
	)
}

// tableOf: which table an entry is of.
func tableOf(e api.Entry) int { return int(e.Key[8]) }

// P14.4: no entries, and those of one row.
func TestFits(t *testing.T) {
	l := several()
	for _, c := range [][]api.Table{nil, {}, l[:1], l, greatest()} {
		checkFits(t, c, nil, true)
		checkFits(t, c, []api.Entry{}, true)
		checkFits(t, c, []api.Entry{{}}, false)
	}
	for table := range l {
		made := wantedOf(t, l, table, severalRow(table))
		checkFits(t, l, made, true)
		checkFits(t, l[:table], made, false)
		checkFits(t, l[table:table+1], made, table == 0)
	}
}

// P14.4: a catalog that does not fit.
func TestFitsNoMisfit(t *testing.T) {
	for _, l := range misfits() {
		checkFits(t, l, nil, false)
		for table := range 3 {
			checkFits(t, l, wantedOf(t, several(), table, severalRow(table)), false)
		}
	}
}

// P14.4: entries of several rows of several tables, in order and not, left out and twice.
func TestFitsSeveralRows(t *testing.T) {
	l, snap := several(), someSnap(t)
	checkFits(t, l, snap, true)
	for i := range snap {
		// The one entry of a row without others may be left out: the whole row is gone with it.
		checkFits(t, l, slices.Delete(slices.Clone(snap), i, i+1), tableOf(snap[i]) == 0)
		checkFits(t, l, slices.Insert(slices.Clone(snap), i, snap[i]), false)
		for j := range i {
			other := slices.Clone(snap)
			if other[i], other[j] = other[j], other[i]; Fits(l, other) {
				t.Errorf("with %s and %s the other way round it fits", brief(snap[i]), brief(snap[j]))
			}
		}
	}
}

// P14.4: an entry more or another one, of no row or of a row that is not there.
func TestFitsNothingMore(t *testing.T) {
	l, snap := several(), someSnap(t)
	gone := wantedOf(t, l, 2, rowWith(whole(8), words("gone"), truth(1), whole(8)))
	first := snap[0]
	for i, more := range []api.Entry{
		{}, {Key: []byte{0}}, {Key: []byte{255}}, {Value: []byte{1}}, {Key: make([]byte, 5000), Value: make([]byte, 5000)},
		gone[0], gone[1], gone[2], {Key: gone[0].Key}, {Key: gone[1].Key, Value: gone[0].Value},
		{Key: keyed(whole(3), whole(0), whole(1)), Value: keyed(whole(1))},
		{Key: keyed(whole(0), whole(1), words("x"), whole(5))},
		{Key: keyed(whole(0), whole(0), whole(7)), Value: keyed(whole(8), null)},
		{Key: keyed(whole(0), whole(0), whole(7)), Value: keyed(whole(7), truth(1))},
		{Key: append(slices.Clone(first.Key), 1), Value: first.Value},
	} {
		if Fits(l, inOrder(append(slices.Clone(snap), more))) {
			t.Errorf("%d: with %s more it fits", i, brief(more))
		}
		checkFits(t, l, []api.Entry{more}, false)
		for j := range snap {
			other := slices.Clone(snap)
			other[j] = more
			if Fits(l, inOrder(other)) {
				t.Errorf("%d: with %s in place of %s it fits", i, brief(more), brief(snap[j]))
			}
		}
	}
	checkFits(t, l, inOrder(slices.Concat(snap, gone)), true)
}

// P14.4: what an entry has must be that of its row, to the byte.
func TestFitsNoOtherBytes(t *testing.T) {
	l, snap := several(), someSnap(t)
	for i, e := range snap {
		for n := range len(e.Key) + 1 {
			other := slices.Clone(snap)
			if other[i] = (api.Entry{Key: slices.Concat(e.Key[:n], []byte{9}), Value: e.Value}); Fits(l, inOrder(other)) {
				t.Errorf("with the Key %v it fits", other[i].Key)
			}
		}
		for _, more := range [][]byte{{0}, {1}, {255}, keyed(whole(1))} {
			other := slices.Clone(snap)
			other[i].Value = slices.Concat(e.Value, more)
			checkFits(t, l, other, false)
		}
	}
}

// P14.4: two rows of one key have the first Key in common, whatever else they have.
func TestFitsNoTwoRowsOfOneKey(t *testing.T) {
	l := several()
	a, b := wantedOf(t, l, 1, rowWith(words("a"), truth(1), whole(1))), wantedOf(t, l, 1, rowWith(words("b"), truth(1), whole(1)))
	checkFits(t, l, a, true)
	checkFits(t, l, b, true)
	checkFits(t, l, inOrder(slices.Concat(a, b)), false)
	checkFits(t, l, inOrder(slices.Concat(b, a)), false)
	checkFits(t, l, inOrder(slices.Concat(a, b[1:])), false)
	checkFits(t, l, inOrder(slices.Concat(a[:1], b[1:])), false)
	// An index's values may be alike.
	c := wantedOf(t, l, 1, rowWith(words("a"), truth(1), whole(2)))
	checkFits(t, l, inOrder(slices.Concat(a, c)), true)
	checkFits(t, l, inOrder(slices.Concat(b, c)), true)
}

// P14.4: MaxSnap entries, and one more, of tables with no, one and two indexes.
func TestFitsSoMany(t *testing.T) {
	l := several()
	rowOfNumber := []func(i int) []api.Value{
		func(i int) []api.Value { return rowWith(whole(i), null) },
		func(i int) []api.Value { return rowWith(words("same"), truth(i%2), whole(-i)) },
		func(i int) []api.Value { return rowWith(whole(i), words("b"), truth(1), whole(i/2)) },
	}
	snapWith := func(counts ...int) []api.Entry {
		rows := make([][][]api.Value, 3)
		for table, n := range counts {
			for i := range n {
				rows[table] = append(rows[table], rowOfNumber[table](i))
			}
		}
		return snapOf(t, rows...)
	}
	for _, x := range []struct {
		snap []api.Entry
		size int
	}{
		{snapWith(199), 199}, {snapWith(200), 200}, {snapWith(201), 201}, {snapWith(0, 100), 200}, {snapWith(1, 100), 201}, {snapWith(0, 101), 202},
		{snapWith(0, 0, 66), 198}, {snapWith(0, 1, 66), 200}, {snapWith(0, 0, 67), 201}, {snapWith(100, 50), 200}, {snapWith(99, 51), 201}, {snapWith(2000), 2000},
	} {
		if len(x.snap) != x.size {
			t.Errorf("there are %d entries, want %d", len(x.snap), x.size)
		}
		checkFits(t, l, x.snap, x.size <= api.MaxSnap)
	}
}

// smallCatalog: tables of which all rows can be told.
func smallCatalog() []api.Table {
	return []api.Table{
		{Name: "t", Columns: []api.Column{column("a", api.Truth, false), column("b", api.Truth, true)}, Key: []int{1}, Indexes: []api.Index{{Name: "i", Places: []int{0}}}},
		{Name: "u", Columns: []api.Column{column("a", api.Truth, true)}, Key: []int{0}},
	}
}

// smallSnaps: all snapshots that fit it: of each key no row or one of those that have it.
func smallSnaps(t *testing.T) [][]api.Entry {
	t.Helper()
	l := smallCatalog()
	snaps := [][]api.Entry{nil}
	add := func(table int, rows ...[]api.Value) {
		for _, snap := range slices.Clone(snaps) {
			for _, row := range rows {
				snaps = append(snaps, slices.Concat(snap, wantedOf(t, l, table, row)))
			}
		}
	}
	for i := range 2 {
		add(0, rowWith(null, truth(i)), rowWith(truth(0), truth(i)), rowWith(truth(1), truth(i)))
		add(1, rowWith(truth(i)))
	}
	return snaps
}

// P14.4: of all sets of entries of a small catalog just those fit that are the entries of some rows.
func TestFitsJustThese(t *testing.T) {
	l, snaps := smallCatalog(), smallSnaps(t)
	fitting := map[string]bool{}
	var pool []api.Entry
	for _, snap := range snaps {
		fitting[fmt.Sprint(inOrder(snap))] = true
		for _, e := range snap {
			if !slices.ContainsFunc(pool, func(o api.Entry) bool { return alike([]api.Entry{o}, []api.Entry{e}) }) {
				pool = append(pool, e)
			}
		}
	}
	if len(snaps) != 64 || len(fitting) != 64 || len(pool) != 14 {
		t.Fatalf("%d snapshots, %d of them told apart, %d entries", len(snaps), len(fitting), len(pool))
	}
	pool = inOrder(pool)
	count := 0
	for set := range 1 << len(pool) {
		var snap []api.Entry
		for i, e := range pool {
			if set>>i&1 == 1 {
				snap = append(snap, e)
			}
		}
		got := Fits(l, snap)
		if want := fitting[fmt.Sprint(snap)]; got != want {
			t.Errorf("Fits(%s): %t", brief(snap), got)
		}
		if got {
			count++
		}
	}
	if count != 64 {
		t.Errorf("%d sets fit", count)
	}
}

// randomSnap: the entries of some rows of a catalog, no two of one key.
func randomSnap(t *testing.T, random *rand.Rand, l []api.Table) []api.Entry {
	t.Helper()
	var snap []api.Entry
	seen := map[string]bool{}
	for range random.Intn(20) {
		table := random.Intn(len(l))
		made := wantedOf(t, l, table, randomRow(random, l[table].Columns))
		if !seen[string(made[0].Key)] {
			seen[string(made[0].Key)] = true
			snap = append(snap, made...)
		}
	}
	return inOrder(snap)
}

// P14.4: whatever catalog and rows; with one entry less, and with one of another row.
func TestFitsManySnapshots(t *testing.T) {
	random := rand.New(rand.NewSource(5))
	for range 500 {
		l := randomCatalog(random)
		snap := randomSnap(t, random, l)
		checkFits(t, l, snap, true)
		for i, e := range snap {
			if got := Fits(l, slices.Delete(slices.Clone(snap), i, i+1)); got != (len(l[tableOf(e)].Indexes) == 0) {
				t.Errorf("%s without entry %d, in %s: %t", brief(snap), i, brief(l), got)
			}
		}
	}
}
