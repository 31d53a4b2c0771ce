package intent

import (
	"bytes"
	"math"
	"math/rand"
	"testing"

	"commonhold/api"
)

func checkEncode(t *testing.T, x api.Intent, want []byte) {
	t.Helper()
	if b, code := Encode(x); !bytes.Equal(b, want) || code != api.OK {
		t.Errorf("Encode(%v): %v, %d; want %v", x, b, code, want)
	}
}

func encodeRefuses(t *testing.T, what string, x api.Intent, want api.Errno) {
	t.Helper()
	if b, code := Encode(x); len(b) != 0 || code != want {
		t.Errorf("Encode of %s: %v, %d; want nothing, %d", what, b, code, want)
	}
}

// P17.2: bytes that are written out.
func TestEncodeExamples(t *testing.T) {
	checkEncode(t, api.Intent{Client: 1, Number: 2, Base: 3}, []byte{1, 0, 0, 0, 2, 0, 0, 0, 3, 0, 0, 0, 0, 0, 0, 0, 0, 0, 0, 0})
	checkEncode(t, api.Intent{Client: 0x010203, Number: 0x040506, Base: 0x070809}, []byte{3, 2, 1, 0, 6, 5, 4, 0, 9, 8, 7, 0, 0, 0, 0, 0, 0, 0, 0, 0})
	checkEncode(t, api.Intent{Client: api.MaxCount, Number: 65536, Base: 256}, []byte{0, 0, 16, 0, 0, 0, 1, 0, 0, 1, 0, 0, 0, 0, 0, 0, 0, 0, 0, 0})
	checkEncode(t, with(reads(read("ab", ""), read("", "c")), writes(drop("d"), set("e", ""), set("f", "gh"))), []byte{
		1, 0, 0, 0, 2, 0, 0, 0, 3, 0, 0, 0,
		2, 0, 0, 0, 2, 0, 0, 0, 'a', 'b', 0, 0, 0, 0, 0, 0, 0, 0, 1, 0, 0, 0, 'c',
		3, 0, 0, 0, 1, 0, 0, 0, 'd', 1, 0, 0, 0, 0, 1, 0, 0, 0, 'e', 0, 0, 0, 0, 0, 1, 0, 0, 0, 'f', 0, 2, 0, 0, 0, 'g', 'h',
	})
}

// P17.2: that what is told are numbers whose second byte, too, counts.
func TestEncodeGreaterNumbers(t *testing.T) {
	b, code := Encode(with(make([]api.Range, 258), nil))
	if code != api.OK || len(b) != 20+258*8 || !bytes.Equal(b[12:16], []byte{2, 1, 0, 0}) {
		t.Errorf("258 Reads: %v, %d", b, code)
	}
	b, code = Encode(with(nil, counted(260)))
	if code != api.OK || len(b) != 20+260*13 || !bytes.Equal(b[16:20], []byte{4, 1, 0, 0}) {
		t.Errorf("260 Writes: %v, %d", b, code)
	}
	b, code = Encode(with(nil, writes(set(long(600), long(700)))))
	if code != api.OK || !bytes.Equal(b[20:24], []byte{88, 2, 0, 0}) || !bytes.Equal(b[624:629], []byte{0, 188, 2, 0, 0}) {
		t.Errorf("a long Key and a long Value: %v, %d", b, code)
	}
}

// P17.2
func TestEncode(t *testing.T) {
	for _, x := range goodOnes() {
		checkEncode(t, x, modelBytes(x))
	}
	random := rand.New(rand.NewSource(172))
	for range 20000 {
		if x := randomIntent(random); modelMay(x) {
			checkEncode(t, x, modelBytes(x))
		} else {
			encodeRefuses(t, "one that may not be", x, api.ErrForm)
		}
	}
}

// P17.2: those that may not be.
func TestEncodeForm(t *testing.T) {
	for what, x := range badOnes() {
		encodeRefuses(t, what, x, api.ErrForm)
	}
	for _, n := range []int{math.MinInt64, -1 << 32, 1 - 1<<32, -1, 1 << 32, 1<<32 + 1, math.MaxInt64} {
		encodeRefuses(t, "a Client", api.Intent{Client: n, Number: 1}, api.ErrForm)
		encodeRefuses(t, "a Number", api.Intent{Client: 1, Number: n}, api.ErrForm)
		encodeRefuses(t, "a Base", api.Intent{Client: 1, Number: 1, Base: n}, api.ErrForm)
	}
	// ErrForm is named first.
	for what, x := range longOnes() {
		encodeRefuses(t, what, x, api.ErrForm)
	}
}

// P17.2: MaxBody bytes, and more.
func TestEncodeSize(t *testing.T) {
	for n := api.MaxBody - 3; n <= api.MaxBody; n++ {
		if b, code := Encode(sizedOf(n)); len(b) != n || code != api.OK {
			t.Errorf("Encode of one of %d bytes: %d bytes, %d", n, len(b), code)
		}
	}
	for n := api.MaxBody + 1; n <= api.MaxBody+30; n++ {
		encodeRefuses(t, "one too long", sizedOf(n), api.ErrSize)
	}
	encodeRefuses(t, "MaxWrites", with(nil, counted(api.MaxWrites)), api.ErrSize)
	encodeRefuses(t, "the longest Value", with(nil, writes(set("a", long(api.MaxBody)))), api.ErrSize)
	encodeRefuses(t, "all that may be", with(make([]api.Range, api.MaxReads), counted(api.MaxWrites)), api.ErrSize)
	// By Reads alone: 20 bytes, and 8 of each, and the keys' own.
	full := with(make([]api.Range, api.MaxReads), nil)
	full.Reads[3].Low = []byte(long(api.MaxBody - 20 - 8*api.MaxReads))
	checkEncode(t, full, modelBytes(full))
	full.Reads[api.MaxReads-1].High = []byte{0}
	encodeRefuses(t, "Reads with a byte too many", full, api.ErrSize)
}
