package meld

import (
	"math"
	"math/rand"
	"testing"

	"commonhold/api"
)

func checkMay(t *testing.T, what string, s api.State, want bool) {
	t.Helper()
	if May(s) != want {
		t.Errorf("May of %s: %t, want %t", what, !want, want)
	}
}

// P18.1: At.
func TestMayAt(t *testing.T) {
	for at, want := range map[int]bool{
		math.MinInt64: false, -1 << 32: false, 1 - 1<<32: false, -2: false, -1: false, 0: true, 1: true, api.MaxCount - 1: true, api.MaxCount: true,
		api.MaxCount + 1: false, 1 << 31: false, 1<<32 - 1: false, 1 << 32: false, 1<<32 + 1: false, math.MaxInt64: false,
	} {
		checkMay(t, "an At alone", api.State{At: at}, want)
		checkMay(t, "an At with lists without elements", api.State{At: at, Cells: cells(), Dones: dones()}, want)
		checkMay(t, "an At with a cell", api.State{At: at, Cells: cells(cell("a", "v", 1))}, want && at > 0)
		checkMay(t, "an At with a Done", api.State{At: at, Dones: dones(kept(1, 1, 1))}, want && at > 0)
	}
}

// P18.1: how long Keys and Values are.
func TestMayLengths(t *testing.T) {
	for n, want := range map[int]bool{0: false, 1: true, 2: true, api.MaxKey - 1: true, api.MaxKey: true, api.MaxKey + 1: false, 1 << 16: false, 1<<16 + 1: false} {
		checkMay(t, "a Key", api.State{At: 1, Cells: cells(cell(long(n), "v", 1))}, want)
		checkMay(t, "a Key that is Gone", api.State{At: 1, Cells: cells(goneCell(long(n), 1))}, want)
		checkMay(t, "a first Key", api.State{At: 1, Cells: cells(cell(long(n), "", 1), cell("z", "", 1))}, want)
		checkMay(t, "a last Key", api.State{At: 1, Cells: cells(cell("a", "", 1), cell(long(n), "", 1))}, want)
	}
	for n, want := range map[int]bool{0: true, 1: true, api.MaxKey + 1: true, api.MaxBody - 1: true, api.MaxBody: true, api.MaxBody + 1: false, 1 << 16: false, 1<<16 + 1: false} {
		checkMay(t, "a Value", api.State{At: 1, Cells: cells(cell("a", long(n), 1))}, want)
		checkMay(t, "a first Value", api.State{At: 1, Cells: cells(cell("a", long(n), 1), cell("b", "", 1))}, want)
		checkMay(t, "a last Value", api.State{At: 1, Cells: cells(cell("a", "", 1), cell("b", long(n), 1))}, want)
		gone := api.Cell{Key: []byte("b"), Value: []byte(long(n)), Gone: true, Since: 1}
		checkMay(t, "Gone", api.State{At: 1, Cells: cells(gone)}, n == 0)
		checkMay(t, "Gone, in between", api.State{At: 1, Cells: cells(cell("a", "v", 1), gone, cell("c", "v", 1))}, n == 0)
	}
	checkMay(t, "Gone, with a nil Value", api.State{At: 1, Cells: cells(goneCell("a", 1))}, true)
}

// P18.1: Keys ascend.
func TestMayKeys(t *testing.T) {
	for _, keys := range [][]string{
		{"a", "b"}, {"a", "aa"}, {"a", "a\x00"}, {"\x00", "\x00\x00"}, {"a", "ab", "b"}, {"aa", "b"}, {"\x7f", "\x80"}, {"\x80", "\xff"}, {"\x7f", "\xff"},
		{"\x00", "\x7f", "\x80", "\xff", "\xff\x00", "\xff\xff"}, {long(api.MaxKey - 1), long(api.MaxKey)},
	} {
		up, down := api.State{At: 1}, api.State{At: 1}
		for i, k := range keys {
			up.Cells = append(up.Cells, cell(k, "v", 1))
			down.Cells = append(down.Cells, cell(keys[len(keys)-1-i], "v", 1))
		}
		checkMay(t, "Keys that ascend", up, true)
		checkMay(t, "Keys that descend", down, false)
		for i := range keys {
			twice := append(append(cells(), up.Cells[:i+1]...), up.Cells[i:]...)
			checkMay(t, "a Key twice", api.State{At: 1, Cells: twice}, false)
			twice[i].Gone, twice[i].Value = true, nil
			checkMay(t, "a Key twice, Gone and not", api.State{At: 1, Cells: twice}, false)
		}
		checkMay(t, "a Key twice, with others between", api.State{At: 1, Cells: append(up.Cells, up.Cells[0])}, false)
	}
}

// P18.1: Since.
func TestMaySince(t *testing.T) {
	for _, at := range []int{1, 2, 3, 1000, api.MaxCount} {
		for since, want := range map[int]bool{math.MinInt64: false, -1: false, 0: false, 1: true, at - 1: at > 1, at: true, at + 1: false, at + 1<<32: false, math.MaxInt64: false} {
			checkMay(t, "Since", api.State{At: at, Cells: cells(cell("a", "v", since))}, want)
			checkMay(t, "Since of one that is Gone", api.State{At: at, Cells: cells(goneCell("a", since))}, want)
			checkMay(t, "a first Since", api.State{At: at, Cells: cells(cell("a", "v", since), cell("b", "v", 1))}, want)
			checkMay(t, "a last Since", api.State{At: at, Cells: cells(cell("a", "v", at), cell("b", "v", since))}, want)
			checkMay(t, "a Done's At", api.State{At: at, Dones: dones(kept(1, 1, since))}, want)
			checkMay(t, "a refused one's At", api.State{At: at, Dones: dones(refused(1, 1, since))}, want)
			checkMay(t, "a first Done's At", api.State{At: at, Dones: dones(kept(1, 1, since), kept(1, 2, 1))}, want)
			checkMay(t, "a last Done's At", api.State{At: at, Dones: dones(kept(1, 1, at), kept(1, 2, since))}, want)
		}
	}
}

// P18.1: Clients and Numbers.
func TestMayDones(t *testing.T) {
	for n, want := range map[int]bool{math.MinInt64: false, -1: false, 0: false, 1: true, 2: true, api.MaxCount: true, api.MaxCount + 1: false, 1 << 32: false, 1<<32 + 1: false, math.MaxInt64: false} {
		checkMay(t, "a Client", api.State{At: 1, Dones: dones(kept(n, 1, 1))}, want)
		checkMay(t, "a Number", api.State{At: 1, Dones: dones(refused(1, n, 1))}, want)
		checkMay(t, "a last Number", api.State{At: 1, Dones: dones(kept(1, 1, 1), refused(2, n, 1))}, want)
	}
	for _, l := range [][]api.Done{
		dones(kept(1, 1, 1), kept(1, 2, 1)), dones(kept(1, 1, 1), kept(2, 1, 1)), dones(kept(1, 2, 1), kept(2, 1, 1)), dones(kept(1, api.MaxCount, 1), kept(api.MaxCount, 1, 1)),
		dones(refused(3, 3, 2), kept(3, 4, 1), refused(4, 1, 2), kept(4, 2, 2)),
	} {
		checkMay(t, "Dones that ascend", api.State{At: 2, Dones: l}, true)
		for i := range l {
			twice := append(append(dones(), l[:i+1]...), l[i:]...)
			checkMay(t, "a Done twice", api.State{At: 2, Dones: twice}, false)
			twice[i].Kept, twice[i].At = !twice[i].Kept, 3-twice[i].At
			checkMay(t, "a Done twice, with other things of it", api.State{At: 2, Dones: twice}, false)
			if i > 0 {
				other := append(dones(), l...)
				other[i-1], other[i] = other[i], other[i-1]
				checkMay(t, "Dones that descend", api.State{At: 2, Dones: other}, false)
			}
		}
	}
	// How Keys and Dones stand to each other is not asked.
	checkMay(t, "cells that nobody wrote", api.State{At: 5, Cells: cells(cell("a", "v", 3))}, true)
	checkMay(t, "two Dones of one position", api.State{At: 5, Dones: dones(kept(1, 1, 3), kept(1, 2, 3))}, true)
}

// P18.1: the tests' lists, and many more.
func TestMay(t *testing.T) {
	for _, s := range goodOnes() {
		checkMay(t, "a good one", s, true)
	}
	for what, s := range badOnes() {
		checkMay(t, what, s, false)
	}
	random := rand.New(rand.NewSource(181))
	yes := 0
	for range 20000 {
		s := spoilt(random, randomState(random))
		want := modelMay(s)
		checkMay(t, "whatever came", s, want)
		if want {
			yes++
		}
	}
	if yes < 5000 || yes > 17000 {
		t.Errorf("%d of 20000 may be: too much of one kind", yes)
	}
}
