package meld

import (
	"bytes"
	"math"
	"math/rand"
	"slices"
	"testing"

	"commonhold/api"
)

func checkSave(t *testing.T, s api.State, want []byte) {
	t.Helper()
	if b, code := Save(s); !bytes.Equal(b, want) || code != api.OK {
		t.Errorf("Save(%v): %v, %d; want %v", s, b, code, want)
	}
}

func saveRefuses(t *testing.T, what string, s api.State) {
	t.Helper()
	if b, code := Save(s); len(b) != 0 || code != api.ErrForm {
		t.Errorf("Save of %s: %v, %d; want nothing, %d", what, b, code, api.ErrForm)
	}
}

func checkLoad(t *testing.T, b []byte, want api.State) {
	t.Helper()
	if s, code := Load(b); !same(s, want) || code != api.OK {
		t.Errorf("Load(%v): %v, %d; want %v", b, s, code, want)
	}
}

func loadRefuses(t *testing.T, what string, b []byte) {
	t.Helper()
	if s, code := Load(b); !same(s, api.State{}) || code != api.ErrForm {
		t.Errorf("Load of %s: %v, %d; want nothing, %d", what, s, code, api.ErrForm)
	}
}

// saved: states, and their bytes written out.
func saved() map[*api.State][]byte {
	return map[*api.State][]byte{
		{}:                 {0, 0, 0, 0, 0, 0, 0, 0, 0, 0, 0, 0},
		{At: 0x010203}:     {3, 2, 1, 0, 0, 0, 0, 0, 0, 0, 0, 0},
		{At: api.MaxCount}: {0, 0, 16, 0, 0, 0, 0, 0, 0, 0, 0, 0},
		{At: 258, Cells: cells(cell("ab", "", 257), goneCell("c", 2), cell("d", "efg", 258)), Dones: dones(kept(1, 2, 3), refused(1, 0x010203, 258), kept(0x040506, 7, 1))}: {
			2, 1, 0, 0,
			3, 0, 0, 0,
			2, 0, 0, 0, 'a', 'b', 0, 0, 0, 0, 0, 1, 1, 0, 0,
			1, 0, 0, 0, 'c', 1, 0, 0, 0, 0, 2, 0, 0, 0,
			1, 0, 0, 0, 'd', 0, 3, 0, 0, 0, 'e', 'f', 'g', 2, 1, 0, 0,
			3, 0, 0, 0,
			1, 0, 0, 0, 2, 0, 0, 0, 3, 0, 0, 0, 1,
			1, 0, 0, 0, 3, 2, 1, 0, 2, 1, 0, 0, 0,
			6, 5, 4, 0, 7, 0, 0, 0, 1, 0, 0, 0, 1,
		},
	}
}

// P18.4: bytes that are written out, to the last byte and the last field.
func TestSaveAndLoadExamples(t *testing.T) {
	for s, b := range saved() {
		checkSave(t, *s, b)
		checkLoad(t, b, *s)
	}
}

// P18.4: counts and lengths whose second byte counts, too.
func TestSaveGreaterNumbers(t *testing.T) {
	b, code := Save(manyOf(300, 260))
	if code != api.OK || len(b) != 12+300*16+260*13 || !bytes.Equal(b[4:8], []byte{44, 1, 0, 0}) || !bytes.Equal(b[8+300*16:12+300*16], []byte{4, 1, 0, 0}) {
		t.Errorf("300 cells, 260 Dones: %d bytes, %d", len(b), code)
	}
	b, code = Save(api.State{At: 1, Cells: cells(cell(long(600), long(4000), 1))})
	if code != api.OK || !bytes.Equal(b[8:12], []byte{88, 2, 0, 0}) || !bytes.Equal(b[612:617], []byte{0, 160, 15, 0, 0}) {
		t.Errorf("a long Key and a long Value: %d bytes, %d", len(b), code)
	}
}

// P18.4: many states.
func TestSaveAndLoad(t *testing.T) {
	for _, s := range goodOnes() {
		checkSave(t, s, modelBytes(s))
		checkLoad(t, modelBytes(s), s)
	}
	random := rand.New(rand.NewSource(184))
	for range 10000 {
		s := spoilt(random, randomState(random))
		if modelMay(s) {
			checkSave(t, s, modelBytes(s))
			checkLoad(t, modelBytes(s), s)
		} else {
			saveRefuses(t, "one that may not be", s)
		}
	}
	// More cells than a snapshot has, and more bytes than a body.
	great := manyOf(65536, 70000)
	checkSave(t, great, modelBytes(great))
	checkLoad(t, modelBytes(great), great)
}

// P18.4: those that may not be.
func TestSaveForm(t *testing.T) {
	for what, s := range badOnes() {
		saveRefuses(t, what, s)
		loadRefuses(t, what, modelBytes(s))
	}
	// Numbers that would look well in four bytes.
	for _, n := range []int{math.MinInt64, -1 << 32, 1 - 1<<32, -1, 1 << 32, 1<<32 + 1, math.MaxInt64} {
		saveRefuses(t, "an At", api.State{At: n})
		saveRefuses(t, "a Since", api.State{At: 1, Cells: cells(cell("a", "", n))})
		saveRefuses(t, "a Client", api.State{At: 1, Dones: dones(kept(n, 1, 1))})
		saveRefuses(t, "a Number", api.State{At: 1, Dones: dones(kept(1, n, 1))})
		saveRefuses(t, "a Done's At", api.State{At: 1, Dones: dones(kept(1, 1, n))})
	}
}

// P18.4: bytes that are cut, or have others behind or ahead of them.
func TestLoadCut(t *testing.T) {
	loadRefuses(t, "nil", nil)
	loadRefuses(t, "no bytes", []byte{})
	for _, s := range goodOnes() {
		b := modelBytes(s)
		for n := range b {
			loadRefuses(t, "cut bytes", b[:n])
			// What lies behind them is not read.
			loadRefuses(t, "cut bytes", slices.Clip(b[:n]))
		}
		for c := range 256 {
			loadRefuses(t, "one more byte", append(slices.Clone(b), byte(c)))
		}
		loadRefuses(t, "four more bytes", append(slices.Clone(b), 0, 0, 0, 0))
		loadRefuses(t, "twice the bytes", slices.Concat(b, b))
	}
	for n := range 3000 {
		if n != 12 {
			loadRefuses(t, "zeros", make([]byte, n))
		}
		loadRefuses(t, "ones", bytes.Repeat([]byte{1}, n))
		loadRefuses(t, "bytes of 255", bytes.Repeat([]byte{255}, n))
	}
}

// P18.4: each number that tells how many, told another way.
func TestLoadCounts(t *testing.T) {
	b := modelBytes(api.State{At: 1, Cells: cells(cell("a", "b", 1)), Dones: dones(kept(1, 1, 1))})
	// Cells, Key, Value, Dones: one of each.
	for _, at := range []int{4, 8, 14, 23} {
		if !bytes.Equal(b[at:at+4], []byte{1, 0, 0, 0}) {
			t.Fatalf("no 1 at %d", at)
		}
		loadRefuses(t, "0", slices.Concat(b[:at], number(nil, 0), b[at+4:]))
		for _, n := range []int{2, 3, 5, 14, 17, 28, 32, 100, 255, 256, 257, api.MaxKey + 1, api.MaxBody + 1, 1 << 16, 1<<16 + 1, 1 << 24, 1<<24 + 1, 1<<31 - 1, 1 << 31, 1<<31 + 1, 1<<32 - 4, 1<<32 - 2, 1<<32 - 1} {
			other := slices.Concat(b[:at], number(nil, n), b[at+4:])
			loadRefuses(t, "another number", other)
			loadRefuses(t, "another number, at the end", other[:at+4])
			loadRefuses(t, "another number, and more", append(other, bytes.Repeat([]byte{1}, 3000)...))
		}
	}
	for _, n := range []int{1, 2, 1 << 31, 1<<32 - 1} {
		loadRefuses(t, "cells that are not there", slices.Concat(make([]byte, 4), number(nil, n), make([]byte, 4)))
		loadRefuses(t, "Dones that are not there", slices.Concat(make([]byte, 8), number(nil, n)))
	}
}

// P18.4: bytes that tell whether something is so.
func TestLoadWhether(t *testing.T) {
	s := api.State{At: 1, Cells: cells(goneCell("a", 1), goneCell("b", 1)), Dones: dones(kept(1, 1, 1), kept(1, 2, 1))}
	b := modelBytes(s)
	for at, so := range map[int]*bool{13: &s.Cells[0].Gone, 27: &s.Cells[1].Gone, 52: &s.Dones[0].Kept, 65: &s.Dones[1].Kept} {
		if b[at] != 1 {
			t.Fatalf("no 1 at %d", at)
		}
		b[at], *so = 0, false
		checkLoad(t, b, s)
		for c := 2; c < 256; c++ {
			b[at] = byte(c)
			loadRefuses(t, "a byte of no meaning", b)
		}
		b[at], *so = 1, true
		checkLoad(t, b, s)
	}
	b = modelBytes(api.State{At: 1, Cells: cells(cell("a", "v", 1))})
	b[13] = 1
	loadRefuses(t, "Gone with a Value", b)
}

// P18.4: bytes that are spoilt somewhere are refused, or those of another state.
func TestLoadSpoilt(t *testing.T) {
	random := rand.New(rand.NewSource(1844))
	loaded := 0
	for range 60000 {
		b := modelBytes(randomState(random))
		for range random.Intn(3) {
			b[random.Intn(len(b))] = byte(random.Intn(4) * random.Intn(86))
		}
		if random.Intn(4) == 0 {
			at := random.Intn(len(b))
			b = slices.Delete(b, at, min(len(b), at+random.Intn(9)))
		}
		s, code := Load(b)
		switch {
		case code == api.OK && (!modelMay(s) || !bytes.Equal(modelBytes(s), b)):
			t.Errorf("Load(%v): %v, whose bytes are others", b, s)
		case code != api.OK && (code != api.ErrForm || !same(s, api.State{})):
			t.Errorf("Load(%v): %v, %d", b, s, code)
		}
		if code == api.OK {
			loaded++
		}
	}
	if loaded < 3000 || loaded > 57000 {
		t.Errorf("%d of 60000 are loaded: too much of one kind", loaded)
	}
}

// Nothing is kept: the same is answered again, whatever was asked between.
func TestSameAgain(t *testing.T) {
	l := goodOnes()
	for range 2 {
		for _, s := range l {
			checkSave(t, s, modelBytes(s))
			checkLoad(t, modelBytes(s), s)
			loadRefuses(t, "cut bytes", modelBytes(s)[1:])
			checkPlay(t, s, nil, s)
			checkSnap(t, s, modelSnap(s)...)
		}
		slices.Reverse(l)
	}
}
