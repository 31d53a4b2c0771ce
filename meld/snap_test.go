package meld

import (
	"math/rand"
	"slices"
	"testing"

	"commonhold/api"
)

// modelSnap: the words of P18.3.
func modelSnap(s api.State) []api.Entry {
	var l []api.Entry
	for _, c := range s.Cells {
		if !c.Gone {
			l = append(l, api.Entry{Key: c.Key, Value: c.Value})
		}
	}
	return l
}

func entry(key, value string) api.Entry { return api.Entry{Key: []byte(key), Value: []byte(value)} }

func checkSnap(t *testing.T, s api.State, want ...api.Entry) {
	t.Helper()
	if got := Snap(s); !slices.EqualFunc(got, want, sameEntry) {
		t.Errorf("Snap(%v): %v, want %v", s, got, want)
	}
}

// P18.3
func TestSnap(t *testing.T) {
	checkSnap(t, api.State{})
	checkSnap(t, api.State{At: 5, Cells: cells(), Dones: dones(kept(1, 1, 5))})
	checkSnap(t, api.State{At: 5, Cells: cells(goneCell("a", 1))})
	checkSnap(t, api.State{At: 5, Cells: cells(goneCell("a", 1), goneCell("b", 5), goneCell("c", 2))})
	checkSnap(t, api.State{At: 5, Cells: cells(cell("a", "", 5))}, entry("a", ""))
	checkSnap(t, api.State{At: 5, Cells: cells(cell("a", "x", 5), goneCell("b", 5), cell("bb", "", 1))}, entry("a", "x"), entry("bb", ""))
	checkSnap(t, api.State{At: 5, Cells: cells(goneCell("a", 5), cell("b", "y", 5), goneCell("c", 5))}, entry("b", "y"))
	checkSnap(t, someState(), entry("a", "one"), entry("bb", ""), entry("c", "see"), entry("\x7f", "1"), entry("\x80", "2"), entry("\xff", "\x00\xff"))
	// There may be more of them than a statement is run on.
	if n := len(Snap(manyOf(api.MaxSnap+100, 0))); n != api.MaxSnap+100 {
		t.Errorf("%d entries", n)
	}
	for _, s := range goodOnes() {
		checkSnap(t, s, modelSnap(s)...)
	}
}

// P18.3: of a state that may not be.
func TestSnapNone(t *testing.T) {
	for _, s := range badOnes() {
		checkSnap(t, s)
		// With cells that could be told, too.
		if len(s.Cells) == 0 {
			s.Cells = cells(cell("a", "v", 1))
			checkSnap(t, s)
		}
	}
	checkSnap(t, api.State{At: -1, Cells: cells(cell("a", "v", 1))})
	random := rand.New(rand.NewSource(183))
	for range 5000 {
		s := spoilt(random, randomState(random))
		if modelMay(s) {
			checkSnap(t, s, modelSnap(s)...)
		} else {
			checkSnap(t, s)
		}
	}
}
