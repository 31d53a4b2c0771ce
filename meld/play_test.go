package meld

import (
	"bytes"
	"math"
	"math/rand"
	"slices"
	"testing"

	"commonhold/api"
	"commonhold/intent"
)

// checkPlay: what a log comes to, from a state on.
func checkPlay(t *testing.T, s api.State, l [][]byte, want api.State, codes ...api.Errno) {
	t.Helper()
	got, c, code := Play(s, l)
	if code != api.OK || !slices.Equal(c, codes) || !same(got, want) {
		t.Errorf("Play(%v, %v): %v, %v, %d; want %v, %v", s, l, got, c, code, want, codes)
	}
	if !modelMay(got) {
		t.Errorf("Play(%v, %v): %v, that may not be", s, l, got)
	}
}

// checkCodes: what the entries of a log come to, from a state on.
func checkCodes(t *testing.T, s api.State, l [][]byte, codes ...api.Errno) {
	t.Helper()
	want, _ := modelPlay(s, l)
	checkPlay(t, s, l, want, codes...)
}

func playRefuses(t *testing.T, what string, s api.State, l [][]byte, want api.Errno) {
	t.Helper()
	if got, c, code := Play(s, l); code != want || len(c) != 0 || !same(got, api.State{}) {
		t.Errorf("Play of %s: %v, %v, %d; want nothing, %d", what, got, c, code, want)
	}
}

// P18.2: no entries.
func TestPlayNothing(t *testing.T) {
	for _, s := range goodOnes() {
		checkPlay(t, s, nil, s)
		checkPlay(t, s, [][]byte{}, s)
	}
}

// P18.2: which states and logs are refused, and in which order.
func TestPlayRefuses(t *testing.T) {
	one := logOf(api.Intent{Client: 1, Number: 1})
	for what, s := range badOnes() {
		playRefuses(t, what, s, nil, api.ErrForm)
		playRefuses(t, what, s, one, api.ErrForm)
		playRefuses(t, what, s, make([][]byte, api.MaxLog+1), api.ErrForm)
	}
	for _, at := range []int{math.MinInt64, -api.MaxLog, -1, 1 << 32, math.MaxInt64 - 1, math.MaxInt64} {
		playRefuses(t, "an At", api.State{At: at}, make([][]byte, api.MaxLog), api.ErrForm)
		playRefuses(t, "an At, of a log too long", api.State{At: at}, make([][]byte, 2*api.MaxLog), api.ErrForm)
	}
	for _, n := range []int{api.MaxLog + 1, api.MaxLog + 2, 1000, 1 << 16} {
		playRefuses(t, "a log too long", api.State{}, make([][]byte, n), api.ErrSize)
		playRefuses(t, "a log too long", someState(), slices.Repeat(one, n), api.ErrSize)
		playRefuses(t, "a log too long", api.State{At: api.MaxCount}, make([][]byte, n), api.ErrSize)
	}
	for _, n := range []int{1, 2, 3, api.MaxLog} {
		playRefuses(t, "an At that would pass", api.State{At: api.MaxCount - n + 1}, slices.Repeat(one, n), api.ErrSize)
		playRefuses(t, "an At that would pass, of no intents", api.State{At: api.MaxCount - n + 1}, make([][]byte, n), api.ErrSize)
		playRefuses(t, "an At that would pass by much", api.State{At: api.MaxCount}, slices.Repeat(one, n), api.ErrSize)
	}
}

// P18.2: the longest log, and the last position.
func TestPlayMost(t *testing.T) {
	var l []api.Intent
	for i := range api.MaxLog {
		l = append(l, api.Intent{Client: 1, Number: api.MaxLog - i, Base: i, Writes: writes(put(string([]byte{byte(i % 256), byte(i / 256)}), "v"))})
	}
	checkCodes(t, api.State{}, logOf(l...), make([]api.Errno, api.MaxLog)...)
	checkCodes(t, api.State{At: api.MaxCount - api.MaxLog}, logOf(l...), make([]api.Errno, api.MaxLog)...)
	checkPlay(t, api.State{}, make([][]byte, api.MaxLog), api.State{At: api.MaxLog}, slices.Repeat([]api.Errno{api.ErrForm}, api.MaxLog)...)
	checkPlay(t, api.State{At: api.MaxCount - 1}, make([][]byte, 1), api.State{At: api.MaxCount}, api.ErrForm)
	checkPlay(t, api.State{At: api.MaxCount - 1}, logOf(api.Intent{Client: 1, Number: 2, Base: api.MaxCount - 1, Writes: writes(put("a", "b"))}),
		api.State{At: api.MaxCount, Cells: cells(cell("a", "b", api.MaxCount)), Dones: dones(kept(1, 2, api.MaxCount))}, api.OK)
	checkPlay(t, api.State{At: api.MaxCount - 1}, logOf(api.Intent{Client: 1, Number: 2, Base: api.MaxCount, Writes: writes(put("a", "b"))}),
		api.State{At: api.MaxCount, Dones: dones(refused(1, 2, api.MaxCount))}, api.ErrRange)
}

// P18.2: entries that are no intent's bytes.
func TestPlayForm(t *testing.T) {
	whole := intentBytes(api.Intent{Client: 7, Number: 7, Base: 1, Reads: reads(read("a", "b")), Writes: writes(put("a", "new"), drop("z"))})
	bad := [][]byte{nil, {}, {0}, append(bytes.Clone(whole), 0), make([]byte, 20), bytes.Repeat([]byte{255}, 50), make([]byte, api.MaxBody+1)}
	for n := range whole {
		bad = append(bad, whole[:n])
	}
	for _, x := range []api.Intent{
		{Client: 0, Number: 1}, {Client: 1, Number: 0}, {Client: api.MaxCount + 1, Number: 1}, {Client: 1, Number: api.MaxCount + 1}, {Client: 1, Number: 1, Base: api.MaxCount + 1},
		{Client: 7, Number: 7, Writes: writes(put("", "v"))}, {Client: 7, Number: 7, Writes: writes(put("b", ""), put("a", ""))}, {Client: 7, Number: 7, Writes: writes(put("a", ""), put("a", ""))},
		{Client: 7, Number: 7, Writes: writes(api.Write{Key: []byte("a"), Value: []byte("v"), Gone: true})}, {Client: 7, Number: 7, Reads: reads(read(long(api.MaxKey+2), ""))},
		// Of one that is Done, too: that it is no intent's is named first.
		{Client: 1, Number: 1, Writes: writes(put("", "v"))},
	} {
		bad = append(bad, intentBytes(x))
	}
	for _, b := range bad {
		if _, code := intent.Decode(b); code != api.ErrForm {
			t.Fatalf("%v are an intent's bytes", b)
		}
		s := someState()
		want := someState()
		want.At++
		checkPlay(t, s, [][]byte{b}, want, api.ErrForm)
		checkPlay(t, api.State{}, [][]byte{b}, api.State{At: 1}, api.ErrForm)
		checkPlay(t, api.State{}, [][]byte{b, b, whole, b}, api.State{
			At: 4, Cells: cells(cell("a", "new", 3), goneCell("z", 3)), Dones: dones(kept(7, 7, 3)),
		}, api.ErrForm, api.ErrForm, api.OK, api.ErrForm)
	}
	// MaxBody bytes are not too many.
	full := api.Intent{Client: 1, Number: 1, Writes: writes(put("a", ""))}
	full.Writes[0].Value = make([]byte, api.MaxBody-len(intentBytes(full)))
	checkPlay(t, api.State{}, logOf(full), api.State{At: 1, Cells: cells(cell("a", string(full.Writes[0].Value), 1)), Dones: dones(kept(1, 1, 1))}, api.OK)
	full.Writes[0].Value = append(full.Writes[0].Value, 0)
	checkPlay(t, api.State{}, logOf(full), api.State{At: 1}, api.ErrForm)
}

// P18.2: the same Client and Number twice.
func TestPlayTwice(t *testing.T) {
	first := api.Intent{Client: 3, Number: 4, Writes: writes(put("a", "1"))}
	other := api.Intent{Client: 3, Number: 4, Base: 1, Writes: writes(put("a", "2"), put("b", "2"))}
	// In one log, the first one kept.
	want := api.State{At: 3, Cells: cells(cell("a", "1", 1)), Dones: dones(kept(3, 4, 1))}
	checkPlay(t, api.State{}, logOf(first, other, first), want, api.OK, api.ErrTwice, api.ErrTwice)
	// In two.
	behind, _, _ := Play(api.State{}, logOf(first))
	checkPlay(t, behind, logOf(other, first), want, api.ErrTwice, api.ErrTwice)
	// The first one not kept: for its Base, and for a conflict.
	ahead := first
	ahead.Base = 1
	checkPlay(t, api.State{}, logOf(ahead, other, first), api.State{At: 3, Dones: dones(refused(3, 4, 1))}, api.ErrRange, api.ErrTwice, api.ErrTwice)
	behind, _, _ = Play(api.State{}, logOf(ahead))
	checkPlay(t, behind, logOf(other), api.State{At: 2, Dones: dones(refused(3, 4, 1))}, api.ErrTwice)
	late := api.Intent{Client: 3, Number: 4, Reads: reads(read("a", "b")), Writes: writes(put("a", "3"))}
	start := api.State{At: 1, Cells: cells(cell("a", "0", 1))}
	want = api.State{At: 3, Cells: cells(cell("a", "0", 1)), Dones: dones(refused(3, 4, 2))}
	checkPlay(t, start, logOf(late, other), want, api.ErrConflict, api.ErrTwice)
	behind, _, _ = Play(start, logOf(late))
	checkPlay(t, behind, logOf(other), want, api.ErrTwice)
	// ErrTwice is named ahead of ErrRange and ErrConflict.
	beyond := api.Intent{Client: 3, Number: 4, Base: api.MaxCount, Reads: reads(read("", "z"))}
	conflicting := api.Intent{Client: 3, Number: 4, Reads: reads(read("", "z"))}
	checkCodes(t, api.State{}, logOf(first, beyond, conflicting), api.OK, api.ErrTwice, api.ErrTwice)
	// What is refused as no intent is not Done.
	checkCodes(t, api.State{}, append([][]byte{intentBytes(first)[:30]}, logOf(first, first)...), api.ErrForm, api.OK, api.ErrTwice)
	// Another Client's Number, or another Number, is another one.
	checkCodes(t, api.State{}, logOf(first, api.Intent{Client: 4, Number: 3}, api.Intent{Client: 3, Number: 3}, api.Intent{Client: 4, Number: 4}, api.Intent{Client: 3, Number: 5}), api.OK, api.OK, api.OK, api.OK, api.OK)
	for _, d := range someState().Dones {
		checkCodes(t, someState(), logOf(api.Intent{Client: d.Client, Number: d.Number, Base: 9}, api.Intent{Client: d.Client + 1000, Number: d.Number, Base: 9}), api.ErrTwice, api.OK)
	}
}

// P18.2: a Base against the position.
func TestPlayBase(t *testing.T) {
	for at := range 4 {
		for base, code := range map[int]api.Errno{at - 1: api.OK, at: api.OK, at + 1: api.ErrRange, at + 2: api.ErrRange, api.MaxCount: api.ErrRange} {
			if base < 0 {
				continue
			}
			x := api.Intent{Client: 1, Number: 1, Base: base, Writes: writes(put("a", "v"))}
			want := api.State{At: at + 1, Dones: dones(refused(1, 1, at+1))}
			if code == api.OK {
				want = api.State{At: at + 1, Cells: cells(cell("a", "v", at+1)), Dones: dones(kept(1, 1, at+1))}
			}
			checkPlay(t, api.State{At: at}, logOf(x), want, code)
			// A Base that is too high conflicts with nothing, nor does one of the state itself.
			x.Reads = reads(read("", "\xff"))
			checkPlay(t, api.State{At: at}, logOf(x), want, code)
		}
	}
	// The position counts, not that of the state where the log begins.
	checkCodes(t, api.State{}, logOf(api.Intent{Client: 1, Number: 1, Base: 1}, api.Intent{Client: 1, Number: 2, Base: 1}, api.Intent{Client: 1, Number: 3, Base: 3}, api.Intent{Client: 1, Number: 4, Base: 3}), api.ErrRange, api.OK, api.ErrRange, api.OK)
}

// conflicts: what an intent comes to, with a Base and Reads, on a state.
func conflicts(t *testing.T, s api.State, base int, want api.Errno, l ...api.Range) {
	t.Helper()
	x := api.Intent{Client: 1000, Number: 1, Base: base, Reads: l, Writes: writes(put("m", "new"))}
	checkCodes(t, s, logOf(x), want)
}

// P18.2: since when a cell is, against a Base.
func TestPlaySince(t *testing.T) {
	for _, c := range []api.Cell{cell("k", "v", 5), goneCell("k", 5), cell("k", "", 5)} {
		s := api.State{At: 8, Cells: cells(cell("a", "", 8), c, cell("z", "", 8))}
		for base := range 9 {
			want := api.OK
			if base < 5 {
				want = api.ErrConflict
			}
			conflicts(t, s, base, want, read("k", "l"))
			conflicts(t, s, base, want, read("b", "y"))
		}
	}
	s := api.State{At: api.MaxCount - 1, Cells: cells(cell("k", "", api.MaxCount-1))}
	conflicts(t, s, api.MaxCount-1, api.OK, read("", "z"))
	conflicts(t, s, api.MaxCount-2, api.ErrConflict, read("", "z"))
}

// P18.2: which keys lie in a range.
func TestPlayRanges(t *testing.T) {
	for _, c := range []api.Cell{cell("k", "v", 2), goneCell("k", 2)} {
		s := api.State{At: 2, Cells: cells(c)}
		for _, r := range []api.Range{read("k", "l"), read("k", "k\x00"), read("", "\xff"), read("j", "k\x00"), read("j\xff\xff", "kk"), read("", "l"), read("\x00", "z")} {
			conflicts(t, s, 1, api.ErrConflict, r)
			conflicts(t, s, 2, api.OK, r)
		}
		for _, r := range []api.Range{
			read("", ""), read("k", ""), read("k", "k"), read("j", "k"), read("", "k"), read("k\x00", "l"), read("l", "z"), read("l", "k"), read("z", "a"), read("z", ""), read("", "\x00"), read("j", "j\xff"),
		} {
			conflicts(t, s, 1, api.OK, r)
			conflicts(t, s, 0, api.OK, r)
		}
	}
	// Keys are bytes, not signed ones.
	s := api.State{At: 2, Cells: cells(cell("\x80", "", 2))}
	conflicts(t, s, 1, api.ErrConflict, read("\x7f", "\xff"))
	conflicts(t, s, 1, api.OK, read("\xff", "\x7f"))
	conflicts(t, s, 1, api.OK, read("\x00", "\x7f"))
	// Keys as long as may be, and ranges with a byte more.
	s = api.State{At: 2, Cells: cells(cell(long(api.MaxKey), "", 2))}
	conflicts(t, s, 1, api.ErrConflict, read(long(api.MaxKey), long(api.MaxKey+1)))
	conflicts(t, s, 1, api.OK, read(long(api.MaxKey-1), long(api.MaxKey)))
	conflicts(t, s, 1, api.OK, read(long(api.MaxKey+1), "z"))
}

// P18.2: several cells and several reads.
func TestPlayReads(t *testing.T) {
	s := api.State{At: 6, Cells: cells(cell("a", "", 1), cell("b", "", 6), goneCell("c", 2), cell("d", "", 3), goneCell("e", 5), cell("f", "", 4))}
	conflicts(t, s, 4, api.OK)
	conflicts(t, s, 4, api.OK, read("c", "e"))
	conflicts(t, s, 4, api.ErrConflict, read("c", "f"))
	conflicts(t, s, 4, api.ErrConflict, read("a", "c"))
	conflicts(t, s, 5, api.OK, read("c", "z"), read("a", "b"))
	conflicts(t, s, 5, api.ErrConflict, read("c", "z"), read("a", "b"), read("b", "c"))
	conflicts(t, s, 5, api.ErrConflict, read("b", "c"), read("c", "z"), read("a", "b"))
	conflicts(t, s, 5, api.ErrConflict, read("z", "a"), read("b", "c"), read("a", "a"))
	conflicts(t, s, 2, api.OK, read("a", "b"), read("c", "d"), read("g", "z"))
	conflicts(t, s, 2, api.ErrConflict, read("a", "b"), read("c", "d"), read("g", "z"), read("f", "f\x00"))
	many := make([]api.Range, api.MaxReads-1)
	conflicts(t, s, 0, api.OK, many...)
	conflicts(t, s, 0, api.ErrConflict, append(many, read("", "b"))...)
	// Writes alone are held against nothing.
	checkCodes(t, s, logOf(api.Intent{Client: 9, Number: 9, Writes: writes(put("b", "blind"))}), api.OK)
}

// P18.2: what was written earlier in the log is read, and what was refused is not.
func TestPlayWithinLog(t *testing.T) {
	all := reads(read("", "\xff"))
	l := logOf(
		api.Intent{Client: 1, Number: 1, Reads: all, Writes: writes(put("a", "1"))},
		api.Intent{Client: 2, Number: 1, Reads: all, Writes: writes(put("b", "2"))},          // a is since 1
		api.Intent{Client: 3, Number: 1, Base: 1, Reads: all, Writes: writes(put("c", "3"))}, // the second one was not kept
		api.Intent{Client: 2, Number: 2, Base: 2, Reads: reads(read("a", "b")), Writes: writes(drop("a"))},
		api.Intent{Client: 3, Number: 2, Base: 3, Reads: reads(read("a", "b"))}, // a is gone, since 4
		api.Intent{Client: 3, Number: 3, Base: 4, Reads: all},
	)
	checkPlay(t, api.State{}, l, api.State{
		At:    6,
		Cells: cells(goneCell("a", 4), cell("c", "3", 3)),
		Dones: dones(kept(1, 1, 1), refused(2, 1, 2), kept(2, 2, 4), kept(3, 1, 3), refused(3, 2, 5), kept(3, 3, 6)),
	}, api.OK, api.ErrConflict, api.OK, api.OK, api.ErrConflict, api.OK)
}

// P18.2: what writes make of cells.
func TestPlayWrites(t *testing.T) {
	b, d, f := cell("b", "1", 1), goneCell("d", 2), cell("f", "3", 3)
	s := api.State{At: 3, Cells: cells(b, d, f)}
	for _, x := range []struct {
		writes []api.Write
		want   []api.Cell
	}{
		{writes(), cells(b, d, f)},
		{writes(put("a", "v")), cells(cell("a", "v", 4), b, d, f)},
		{writes(put("a\xff", "")), cells(cell("a\xff", "", 4), b, d, f)},
		{writes(put("c", "v")), cells(b, cell("c", "v", 4), d, f)},
		{writes(put("b\x00", "v")), cells(b, cell("b\x00", "v", 4), d, f)},
		{writes(put("g", "v")), cells(b, d, f, cell("g", "v", 4))},
		{writes(put("b", "v")), cells(cell("b", "v", 4), d, f)},
		{writes(put("b", "1")), cells(cell("b", "1", 4), d, f)},
		{writes(put("b", "")), cells(cell("b", "", 4), d, f)},
		{writes(put("f", "v")), cells(b, d, cell("f", "v", 4))},
		{writes(put("d", "v")), cells(b, cell("d", "v", 4), f)},
		{writes(drop("d")), cells(b, goneCell("d", 4), f)},
		{writes(drop("b")), cells(goneCell("b", 4), d, f)},
		{writes(drop("f")), cells(b, d, goneCell("f", 4))},
		{writes(drop("a")), cells(goneCell("a", 4), b, d, f)},
		{writes(drop("e")), cells(b, d, goneCell("e", 4), f)},
		{writes(drop("g")), cells(b, d, f, goneCell("g", 4))},
		{writes(put("a", "1"), put("b", "2"), put("c", "3"), put("d", "4"), drop("e"), drop("f"), put("g", "7")),
			cells(cell("a", "1", 4), cell("b", "2", 4), cell("c", "3", 4), cell("d", "4", 4), goneCell("e", 4), goneCell("f", 4), cell("g", "7", 4))},
		{writes(put("a", "1"), put("aa", "2"), put("f", "3")), cells(cell("a", "1", 4), cell("aa", "2", 4), b, d, cell("f", "3", 4))},
		{writes(put("b", "1"), put("g", "2"), put("h", "3")), cells(cell("b", "1", 4), d, f, cell("g", "2", 4), cell("h", "3", 4))},
		{writes(put("\x7f", "1"), put("\x80", "2"), put("\xff", "3")), cells(b, d, f, cell("\x7f", "1", 4), cell("\x80", "2", 4), cell("\xff", "3", 4))},
	} {
		l := logOf(api.Intent{Client: 1, Number: 1, Base: 3, Writes: x.writes})
		checkPlay(t, s, l, api.State{At: 4, Cells: x.want, Dones: dones(kept(1, 1, 4))}, api.OK)
		// On nothing the writes are all there is.
		var alone []api.Cell
		for _, w := range x.writes {
			alone = append(alone, api.Cell{Key: w.Key, Value: w.Value, Gone: w.Gone, Since: 5})
		}
		checkPlay(t, api.State{At: 4}, l, api.State{At: 5, Cells: alone, Dones: dones(kept(1, 1, 5))}, api.OK)
		// One that is refused writes nothing.
		refusedOne := api.Intent{Client: 1, Number: 1, Base: 2, Reads: reads(read("f", "g")), Writes: x.writes}
		checkPlay(t, s, logOf(refusedOne), api.State{At: 4, Cells: s.Cells, Dones: dones(refused(1, 1, 4))}, api.ErrConflict)
		refusedOne.Base = 4
		checkPlay(t, s, logOf(refusedOne), api.State{At: 4, Cells: s.Cells, Dones: dones(refused(1, 1, 4))}, api.ErrRange)
	}
}

// P18.2: as many writes as there is room for.
func TestPlayManyWrites(t *testing.T) {
	x := api.Intent{Client: 1, Number: 1}
	for i := range 350 {
		x.Writes = append(x.Writes, api.Write{Key: []byte{byte(i / 200), byte(i % 200)}, Gone: true})
	}
	y := x
	y.Number, y.Writes = 2, nil
	for i := range 300 {
		y.Writes = append(y.Writes, put(string([]byte{byte(i / 150), byte(i % 150), byte(i % 2)}), "v"))
	}
	checkCodes(t, manyOf(300, 280), logOf(x, y), api.ErrTwice, api.ErrTwice)
	x.Client, y.Client = 1000, 1000
	checkCodes(t, manyOf(300, 280), logOf(x, y, y, x), api.OK, api.OK, api.ErrTwice, api.ErrTwice)
}

// P18.2: where each Done stands.
func TestPlayDones(t *testing.T) {
	ids := [][2]int{{5, 5}, {5, 4}, {5, 6}, {4, 9}, {6, 1}, {1, api.MaxCount}, {api.MaxCount, 1}, {5, 1}, {api.MaxCount, api.MaxCount}, {1, 1}}
	random := rand.New(rand.NewSource(1822))
	for range 200 {
		random.Shuffle(len(ids), func(i, j int) { ids[i], ids[j] = ids[j], ids[i] })
		want := api.State{At: 20 + len(ids)}
		var l []api.Intent
		var codes []api.Errno
		for i, id := range ids {
			x := api.Intent{Client: id[0], Number: id[1], Base: 20}
			code := []api.Errno{api.OK, api.ErrRange}[random.Intn(2)]
			if code == api.ErrRange {
				x.Base = 21 + i
			}
			l = append(l, x)
			codes = append(codes, code)
			want.Dones = append(want.Dones, api.Done{Client: id[0], Number: id[1], At: 21 + i, Kept: code == api.OK})
		}
		slices.SortFunc(want.Dones, func(a, b api.Done) int { return (a.Client-b.Client)*(api.MaxCount+1) + a.Number - b.Number })
		checkPlay(t, api.State{At: 20}, logOf(l...), want, codes...)
	}
}

// P18.2: At goes on by one, whatever an entry comes to.
func TestPlayAt(t *testing.T) {
	l := append(logOf(
		api.Intent{Client: 1, Number: 1, Writes: writes(put("a", "v"))}, api.Intent{Client: 1, Number: 1}, api.Intent{Client: 1, Number: 2, Reads: reads(read("a", "b"))}, api.Intent{Client: 1, Number: 3, Base: 99},
	), nil)
	codes := []api.Errno{api.OK, api.ErrTwice, api.ErrConflict, api.ErrRange, api.ErrForm}
	checkPlay(t, api.State{}, l, api.State{At: 5, Cells: cells(cell("a", "v", 1)), Dones: dones(kept(1, 1, 1), refused(1, 2, 3), refused(1, 3, 4))}, codes...)
	for i, b := range l {
		s := api.State{At: 7, Cells: cells(cell("a", "w", 7)), Dones: dones(kept(1, 4, 7))}
		if got, _, _ := Play(s, [][]byte{b}); got.At != 8 {
			t.Errorf("entry %d: At is %d", i, got.At)
		}
	}
}

// P18.2: many states and logs.
func TestPlay(t *testing.T) {
	random := rand.New(rand.NewSource(182))
	seen := map[api.Errno]int{}
	for range 20000 {
		s := randomState(random)
		if random.Intn(4) == 0 {
			s = api.State{}
		}
		l := randomLog(random, s.At, random.Intn(9))
		want, codes := modelPlay(s, l)
		checkPlay(t, s, l, want, codes...)
		for _, c := range codes {
			seen[c]++
		}
	}
	for _, c := range []api.Errno{api.OK, api.ErrForm, api.ErrTwice, api.ErrRange, api.ErrConflict} {
		if seen[c] < 3000 {
			t.Errorf("%d entries only come to %d", seen[c], c)
		}
	}
}

// What comes of it: a log that is read in parts comes to the same, from a state that was saved and loaded on the way, too.
func TestPlayInParts(t *testing.T) {
	random := rand.New(rand.NewSource(1821))
	for range 3000 {
		s := randomState(random)
		l := randomLog(random, s.At, 1+random.Intn(30))
		want, wantCodes, _ := Play(s, l)
		var codes []api.Errno
		for len(l) > 0 {
			n := random.Intn(len(l) + 1)
			next, c, code := Play(s, l[:n])
			if code != api.OK {
				t.Fatalf("a part is refused: %d", code)
			}
			codes = append(codes, c...)
			s, l = next, l[n:]
			if random.Intn(2) == 0 {
				b, _ := Save(s)
				s, _ = Load(b)
			}
		}
		if !same(s, want) || !slices.Equal(codes, wantCodes) {
			t.Fatalf("in parts: %v, %v; want %v, %v", s, codes, want, wantCodes)
		}
	}
}

// What comes of it: what was kept is as if each had been alone, one behind the other: each one kept finds what it read as it was.
func TestPlayAsIfAlone(t *testing.T) {
	random := rand.New(rand.NewSource(1823))
	for range 2000 {
		l := randomLog(random, 0, 20)
		states := []api.State{{}}
		for i, b := range l {
			next, c, _ := Play(states[i], [][]byte{b})
			states = append(states, next)
			if c[0] != api.OK {
				if !slices.EqualFunc(next.Cells, states[i].Cells, sameCell) {
					t.Fatalf("a refused one writes: %v, %v", states[i], next)
				}
				continue
			}
			x, _ := intent.Decode(b)
			for _, r := range x.Reads {
				if !slices.EqualFunc(within(states[x.Base], r), within(states[i], r), sameEntry) {
					t.Fatalf("%v reads what is no more: %v, %v", x, states[x.Base], states[i])
				}
			}
		}
	}
}

// within: the entries of a state that lie in a range.
func within(s api.State, r api.Range) []api.Entry {
	var l []api.Entry
	for _, e := range Snap(s) {
		if string(e.Key) >= string(r.Low) && string(e.Key) < string(r.High) {
			l = append(l, e)
		}
	}
	return l
}

// P18.2: a log that covers many cells again and again.
func TestPlayMuch(t *testing.T) {
	s := api.State{At: api.MaxCount - api.MaxLog}
	for i := range 50000 {
		s.Cells = append(s.Cells, api.Cell{Key: []byte{byte(i >> 16), byte(i >> 8), byte(i)}, Since: 1})
	}
	var l []api.Intent
	for i := range api.MaxLog {
		x := api.Intent{Client: 1, Number: 1 + i, Base: s.At + i, Reads: slices.Repeat(reads(read("", "\xff")), 200)}
		for j := range 80 {
			x.Writes = append(x.Writes, drop(string([]byte{0, byte(j), byte(i), byte(i >> 8)})))
		}
		l = append(l, x)
	}
	got, codes, code := Play(s, logOf(l...))
	if code != api.OK || len(got.Cells) != 50000+80*api.MaxLog || len(got.Dones) != api.MaxLog || slices.Max(codes) != api.OK || !modelMay(got) {
		t.Errorf("%d cells, %d Dones, %v, %d", len(got.Cells), len(got.Dones), codes, code)
	}
}
