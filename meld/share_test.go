package meld

import (
	"bytes"
	"cmp"
	"fmt"
	"math/rand"
	"reflect"
	"slices"
	"testing"

	"commonhold/api"
)

// roomy: a copy with others behind it, in its spare room.
func roomy[T any](l []T, spare T) []T {
	kept := make([]T, len(l)+3)
	copy(kept, l)
	for i := len(l); i < len(kept); i++ {
		kept[i] = spare
	}
	return kept[:len(l)]
}

// roomyState: a copy whose lists share nothing, and have spare room.
func roomyState(s api.State) api.State {
	s.Cells = roomy(s.Cells, cell("\xff\xffspare", "room", 1))
	for i, c := range s.Cells {
		s.Cells[i].Key, s.Cells[i].Value = roomy(c.Key, 1), roomy(c.Value, 1)
	}
	s.Dones = roomy(s.Dones, kept(api.MaxCount, api.MaxCount, 1))
	return s
}

func roomyLog(l [][]byte) [][]byte {
	l = roomy(l, intentBytes(api.Intent{Client: 5, Number: 5}))
	for i, b := range l {
		l[i] = roomy(b, 1)
	}
	return l
}

// told: a thing with all that its lists have, spare room too, as a text.
func told(l ...any) string {
	var b bytes.Buffer
	var tell func(v reflect.Value)
	tell = func(v reflect.Value) {
		switch v.Kind() {
		case reflect.Slice:
			fmt.Fprintf(&b, "%d[", v.Len())
			for i := range v.Cap() {
				tell(v.Slice(0, v.Cap()).Index(i))
			}
			b.WriteString("]")
		case reflect.Struct:
			for i := range v.NumField() {
				tell(v.Field(i))
			}
		default:
			fmt.Fprintf(&b, "%v ", v)
		}
	}
	for _, x := range l {
		tell(reflect.ValueOf(x))
	}
	return b.String()
}

// stretch: where the memory of a list begins and ends, its spare room counted.
type stretch struct{ low, high uintptr }

// stretches: those of all lists that can be reached from things, through spare room too, by where they begin.
func stretches(l ...any) []stretch {
	var found []stretch
	var note func(v reflect.Value)
	note = func(v reflect.Value) {
		switch v.Kind() {
		case reflect.Slice:
			if v.Cap() > 0 {
				found = append(found, stretch{v.Pointer(), v.Pointer() + uintptr(v.Cap())*v.Type().Elem().Size()})
			}
			if v.Type().Elem().Kind() == reflect.Uint8 {
				return
			}
			for i := range v.Cap() {
				note(v.Slice(0, v.Cap()).Index(i))
			}
		case reflect.Struct:
			for i := range v.NumField() {
				note(v.Field(i))
			}
		}
	}
	for _, x := range l {
		note(reflect.ValueOf(x))
	}
	slices.SortFunc(found, func(a, b stretch) int { return cmp.Compare(a.low, b.low) })
	return found
}

// sharing: whether two lists that can be reached from answers have memory in common, or one of them with a list that was given.
func sharing(answers []any, given ...any) bool {
	mine := stretches(answers...)
	for i := 1; i < len(mine); i++ {
		if mine[i-1].high > mine[i].low {
			return true
		}
	}
	for _, s := range stretches(given...) {
		// Of the lists of the answers that begin ahead of its end the last one is the last to end, too.
		n, _ := slices.BinarySearchFunc(mine, s.high, func(m stretch, high uintptr) int { return cmp.Compare(m.low, high) })
		if n > 0 && mine[n-1].high > s.low {
			return true
		}
	}
	return false
}

// answers: of any kinds.
func answers(l ...any) []any { return l }

// The checks themselves find what they are there for.
func TestChecks(t *testing.T) {
	b := []byte("abc")
	for i, s := range []api.State{
		{Cells: cells(api.Cell{Key: b, Value: b[2:]})}, {Cells: cells(api.Cell{Key: b[:1]}, api.Cell{Value: b[1:]})}, {Cells: cells(api.Cell{Key: b}, api.Cell{Key: b})[:1]},
	} {
		if !sharing(answers(s)) || !sharing(answers(b[1:]), s) {
			t.Errorf("example %d shares memory", i)
		}
	}
	s, l := roomyState(someState()), roomyLog(logOf(api.Intent{Client: 1, Number: 1}))
	if sharing(answers(someState(), modelBytes(s)), s, l) || !sharing(answers(s.Dones[3:]), s) || !sharing(answers(s.Cells[2].Key), s) || !sharing(answers(l[0][5:]), s, l) || !same(s, someState()) {
		t.Error("sharing tells other things")
	}
	for i, change := range []func(){
		func() { s.At++ }, func() { s.Cells[0].Since++ }, func() { s.Cells[1].Gone = false }, func() { s.Cells[0].Key[0]++ }, func() { s.Cells[0].Value[:4][3]++ }, func() { s.Cells[:9][8].Key = nil },
		func() { s.Dones[0].Kept = false }, func() { s.Dones[:7][6].At++ }, func() { l[0][0]++ }, func() { l[0][:21][20]++ }, func() { l[:2][1][0]++ }, func() { l = l[:0] },
	} {
		was := told(s, l)
		if change(); told(s, l) == was {
			t.Errorf("change %d: all is as it was", i)
		}
	}
}

// checkShares: that calls leave what was handed in as it was, and that their answers share nothing.
func checkShares(t *testing.T, s api.State, l [][]byte) {
	t.Helper()
	s, l = roomyState(s), roomyLog(l)
	saved := roomy(modelBytes(s), 1)
	was := told(s, l, saved)
	May(s)
	played, codes, _ := Play(s, l)
	again, codesAgain, _ := Play(s, l)
	entries, entriesAgain := Snap(s), Snap(s)
	b, _ := Save(s)
	bAgain, _ := Save(s)
	loaded, _ := Load(saved)
	loadedAgain, _ := Load(saved)
	if told(s, l, saved) != was {
		t.Errorf("%v, %v: what was handed in is changed", s, l)
	}
	if sharing(answers(played, codes, again, codesAgain, entries, entriesAgain, b, bAgain, loaded, loadedAgain), s, l, saved) {
		t.Errorf("%v, %v: memory is shared", s, l)
	}
}

// P18.1 to P18.4: what is handed in stays as it is, and what comes out is new.
func TestShares(t *testing.T) {
	log := logOf(
		api.Intent{Client: 4, Number: 1, Base: 1, Reads: reads(read("d", "e")), Writes: writes(put("a", "new"), drop("aa"), put("c", ""), put("d", "dee"), drop("\xff"))},
		api.Intent{Client: 4, Number: 1, Writes: writes(put("a", "twice"))},
		api.Intent{Client: 4, Number: 2, Reads: reads(read("a", "b")), Writes: writes(put("a", "refused"))},
		api.Intent{Client: 3, Number: 2, Base: api.MaxCount, Writes: writes(put("a", "refused"))},
		api.Intent{Client: 4, Number: 3, Writes: writes(put("a", "newer"), put("aa", "new"), put("z", "zed"))})
	log = append(log, nil, []byte{1})
	for _, s := range goodOnes() {
		checkShares(t, s, log)
		checkShares(t, s, nil)
		checkShares(t, s, make([][]byte, api.MaxLog+1))
	}
	for _, s := range badOnes() {
		checkShares(t, s, log)
	}
	random := rand.New(rand.NewSource(185))
	for range 3000 {
		s := randomState(random)
		checkShares(t, s, randomLog(random, s.At, random.Intn(12)))
		checkShares(t, spoilt(random, s), randomLog(random, s.At, 3))
	}
}

// What a log has twice, as one list, comes out as two.
func TestSharesOneEntryTwice(t *testing.T) {
	b := intentBytes(api.Intent{Client: 1, Number: 1, Writes: writes(put("a", "v"), put("b", "w"))})
	c := intentBytes(api.Intent{Client: 1, Number: 2, Writes: writes(put("b", "w"), put("c", "x"))})
	s, _, _ := Play(api.State{}, [][]byte{b, c, b, c})
	if sharing(answers(s), b, c) {
		t.Errorf("%v: memory is shared", s)
	}
	// Cells that were handed in with one list for several of them, too.
	v := []byte("value")
	given := api.State{At: 1, Cells: cells(api.Cell{Key: v[:1], Value: v, Since: 1}, api.Cell{Key: v[:2], Value: v, Since: 1})}
	played, _, _ := Play(given, nil)
	if sharing(answers(played, Snap(given)), v) || !same(played, given) {
		t.Errorf("%v: memory is shared", played)
	}
}

// What was answered stays, when what was handed in is written over.
func TestAnswersStay(t *testing.T) {
	for _, s := range goodOnes() {
		log := logOf(api.Intent{Client: 9, Number: 9, Writes: writes(put("key", "value"))})
		if s.At == api.MaxCount {
			log = nil
		}
		wantState, wantCodes := modelPlay(s, log)
		wantBytes := modelBytes(s)
		given, givenLog, saved := roomyState(s), roomyLog(log), roomy(wantBytes, 1)
		played, codes, _ := Play(given, givenLog)
		b, _ := Save(given)
		loaded, _ := Load(saved)
		entries := Snap(given)
		for _, l := range append(append([][]byte{saved}, givenLog...), bytesOf(given)...) {
			spoil(l)
		}
		clear(given.Cells[:cap(given.Cells)])
		clear(given.Dones[:cap(given.Dones)])
		if !same(played, wantState) || !slices.Equal(codes, wantCodes) || !bytes.Equal(b, wantBytes) || !same(loaded, s) || !slices.EqualFunc(entries, modelSnap(s), sameEntry) {
			t.Errorf("what was answered of %v is changed", s)
		}
	}
}

// bytesOf: all lists of bytes of a state.
func bytesOf(s api.State) [][]byte {
	var l [][]byte
	for _, c := range s.Cells {
		l = append(l, c.Key, c.Value)
	}
	return l
}

// spoil writes over all of a list's memory.
func spoil(b []byte) {
	b = b[:cap(b)]
	for i := range b {
		b[i] ^= 85
	}
}
