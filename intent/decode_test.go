package intent

import (
	"bytes"
	"math/rand"
	"slices"
	"testing"

	"commonhold/api"
)

func checkDecode(t *testing.T, b []byte, want api.Intent) {
	t.Helper()
	if x, code := Decode(b); !same(x, want) || code != api.OK {
		t.Errorf("Decode(%v): %v, %d; want %v", b, x, code, want)
	}
}

func decodeRefuses(t *testing.T, what string, b []byte) {
	t.Helper()
	x, code := Decode(b)
	if !same(x, api.Intent{}) || code != api.ErrForm {
		t.Errorf("Decode of %s, %v: %v, %d; want nothing, ErrForm", what, b, x, code)
	}
}

// P17.3: bytes that are written out.
func TestDecodeExamples(t *testing.T) {
	checkDecode(t, []byte{1, 0, 0, 0, 2, 0, 0, 0, 3, 0, 0, 0, 0, 0, 0, 0, 0, 0, 0, 0}, api.Intent{Client: 1, Number: 2, Base: 3})
	checkDecode(t, []byte{3, 2, 1, 0, 6, 5, 4, 0, 9, 8, 7, 0, 0, 0, 0, 0, 0, 0, 0, 0}, api.Intent{Client: 0x010203, Number: 0x040506, Base: 0x070809})
	checkDecode(t, []byte{
		1, 0, 0, 0, 2, 0, 0, 0, 3, 0, 0, 0,
		2, 0, 0, 0, 2, 0, 0, 0, 'a', 'b', 0, 0, 0, 0, 0, 0, 0, 0, 1, 0, 0, 0, 'c',
		2, 0, 0, 0, 1, 0, 0, 0, 'd', 1, 0, 0, 0, 0, 1, 0, 0, 0, 'f', 0, 2, 0, 0, 0, 'g', 'h',
	}, with(reads(read("ab", ""), read("", "c")), writes(drop("d"), set("f", "gh"))))
}

// P17.2, P17.3: an intent is read back from its bytes, and bytes that are read are those of what was read.
func TestThereAndBack(t *testing.T) {
	l := goodOnes()
	random := rand.New(rand.NewSource(173))
	for range 20000 {
		l = append(l, randomIntent(random))
	}
	for _, x := range l {
		if !modelMay(x) {
			decodeRefuses(t, "one that may not be", modelBytes(x))
			continue
		}
		b, _ := Encode(x)
		checkDecode(t, b, x)
		again, _ := Decode(b)
		checkEncode(t, again, b)
	}
}

// P17.3: bytes cut at every place, and with more behind them.
func TestDecodeCut(t *testing.T) {
	for _, x := range goodOnes() {
		b := modelBytes(x)
		for n := range b {
			decodeRefuses(t, "cut bytes", b[:n])
		}
		for _, c := range []byte{0, 1, 255} {
			decodeRefuses(t, "bytes with one behind", append(bytes.Clone(b), c))
		}
		decodeRefuses(t, "bytes twice", slices.Concat(b, b))
		decodeRefuses(t, "bytes with four behind", append(bytes.Clone(b), 0, 0, 0, 0))
	}
	decodeRefuses(t, "nil", nil)
	decodeRefuses(t, "no bytes", []byte{})
}

// P17.3: how many bytes there may be.
func TestDecodeSize(t *testing.T) {
	checkDecode(t, modelBytes(sizedOf(api.MaxBody)), sizedOf(api.MaxBody))
	for n := 1; n <= 30; n++ {
		decodeRefuses(t, "too many bytes", modelBytes(sizedOf(api.MaxBody+n)))
	}
	decodeRefuses(t, "MaxWrites", modelBytes(with(nil, counted(api.MaxWrites))))
	for _, n := range []int{19, 20, 21, api.MaxBody, api.MaxBody + 1, 1 << 16, 1 << 20} {
		decodeRefuses(t, "zeros", make([]byte, n))
		decodeRefuses(t, "ones", bytes.Repeat([]byte{1}, n))
		decodeRefuses(t, "bytes of 255", bytes.Repeat([]byte{255}, n))
	}
}

// P17.3: bytes of intents that may not be.
func TestDecodeForm(t *testing.T) {
	for what, x := range badOnes() {
		decodeRefuses(t, what, modelBytes(x))
	}
	for what, x := range longOnes() {
		decodeRefuses(t, what, modelBytes(x))
	}
	checkDecode(t, modelBytes(with(make([]api.Range, api.MaxReads), nil)), with(make([]api.Range, api.MaxReads), nil))
}

// counts: what a number may tell that is greater than what follows.
func counts() []int {
	return []int{2, 3, 5, 100, 255, 256, 257, api.MaxReads, api.MaxReads + 1, api.MaxKey + 1, api.MaxBody, 1 << 16, 1<<16 + 1, 1 << 24, 1<<24 + 1, 1<<31 - 1, 1 << 31, 1<<31 + 1, 1<<32 - 4, 1<<32 - 2, 1<<32 - 1}
}

// P17.3: each number that tells how many, told another way.
func TestDecodeCounts(t *testing.T) {
	b := modelBytes(with(reads(read("a", "b")), writes(set("c", "d"))))
	// Reads, Low, High, Writes, Key, Value: one of each.
	for _, at := range []int{12, 16, 21, 26, 30, 36} {
		if !bytes.Equal(b[at:at+4], []byte{1, 0, 0, 0}) {
			t.Fatalf("no 1 at %d", at)
		}
		// What 0 tells leaves over what follows.
		decodeRefuses(t, "0", slices.Concat(b[:at], number(nil, 0), b[at+4:]))
		for _, n := range counts() {
			other := slices.Concat(b[:at], number(nil, n), b[at+4:])
			decodeRefuses(t, "another number", other)
			decodeRefuses(t, "another number, at the end", other[:at+4])
			// With bytes behind that are enough for some of them, and tell nothing.
			decodeRefuses(t, "another number, and more", append(other, bytes.Repeat([]byte{3}, 3000)...))
		}
	}
	for _, n := range counts() {
		decodeRefuses(t, "Reads alone", slices.Concat(b[:12], number(nil, n)))
		decodeRefuses(t, "Reads that are not there", slices.Concat(b[:12], number(nil, n), make([]byte, 4)))
		decodeRefuses(t, "Writes that are not there", slices.Concat(b[:12], make([]byte, 4), number(nil, n)))
	}
	// So many as are told, but more than may be.
	decodeRefuses(t, "too many Reads", slices.Concat(b[:12], number(nil, api.MaxReads+1), make([]byte, 8*(api.MaxReads+1)+4)))
	// The Writes that are told have no room within MaxBody.
	decodeRefuses(t, "too many Writes", modelBytes(with(nil, counted(api.MaxWrites+1)))[:api.MaxBody])
}

// P17.3: the byte that tells Gone.
func TestDecodeGone(t *testing.T) {
	for _, l := range [][]api.Write{writes(drop("a")), writes(set("b", "v"), drop("c"))} {
		b := modelBytes(with(nil, l))
		at := len(b) - 5
		b[at] = 0
		l[len(l)-1].Gone = false
		checkDecode(t, b, with(nil, l))
		for c := 2; c < 256; c++ {
			b[at] = byte(c)
			decodeRefuses(t, "a byte of no meaning", b)
		}
	}
	b := modelBytes(with(nil, writes(set("a", "v"))))
	b[len(b)-6] = 1
	decodeRefuses(t, "Gone with a Value", b)
}

// checkOnlyEncoded: that bytes are refused, or are those of what was read; and which of the two.
func checkOnlyEncoded(t *testing.T, b []byte) bool {
	t.Helper()
	x, code := Decode(b)
	switch {
	case code == api.OK && (!modelMay(x) || !bytes.Equal(modelBytes(x), b)):
		t.Errorf("Decode(%v): %v, whose bytes are others", b, x)
	case code != api.OK && (code != api.ErrForm || !same(x, api.Intent{})):
		t.Errorf("Decode(%v): %v, %d", b, x, code)
	}
	return code == api.OK
}

// P17.3: bytes that are spoilt somewhere are refused, or those of another intent.
func TestDecodeSpoilt(t *testing.T) {
	random := rand.New(rand.NewSource(1733))
	read := 0
	for range 60000 {
		b := modelBytes(randomIntent(random))
		for range random.Intn(3) {
			at := random.Intn(len(b))
			b[at] = byte(random.Intn(4) * random.Intn(86))
		}
		if random.Intn(4) == 0 {
			at := random.Intn(len(b))
			b = slices.Delete(b, at, min(len(b), at+random.Intn(9)))
		}
		if checkOnlyEncoded(t, b) {
			read++
		}
	}
	if read < 3000 || read > 57000 {
		t.Errorf("%d of 60000 are read: too much of one kind", read)
	}
}
