package sum

import (
	"bytes"
	"hash/crc32"
	"math"
	"testing"

	"commonhold/api"
)

// powers of the polynomial that P4.1 divides by.
var powers = []int{32, 26, 23, 22, 16, 12, 11, 10, 8, 7, 5, 4, 2, 1, 0}

// inARow: the bits of the bytes, each byte's lowest one first, and 32 bits 0 behind them.
func inARow(b []byte) []int {
	var row []int
	for _, c := range b {
		for i := range 8 {
			row = append(row, int(c)>>i&1)
		}
	}
	return append(row, make([]int, 32)...)
}

// byTheWords: the sum as P4.1 says it, word by word, on bits that stand in a row.
func byTheWords(b []byte) int {
	row := inARow(b)
	for i := range 32 {
		row[i] ^= 1
	}
	for i := range len(row) - 32 {
		if row[i] == 0 {
			continue
		}
		for _, p := range powers {
			row[i+32-p] ^= 1
		}
	}
	sum := 0
	for i, bit := range row[len(row)-32:] {
		sum |= (bit ^ 1) << i
	}
	return sum
}

func checkOf(t *testing.T, b []byte, want int) {
	t.Helper()
	if got := Of(b); got != want {
		t.Errorf("Of(%q): %d; want %d", b, got, want)
	}
}

func checkMore(t *testing.T, sum int, b []byte, want int, wantCode api.Errno) {
	t.Helper()
	if got, code := More(sum, b); got != want || code != wantCode {
		t.Errorf("More(%d, %q): %d, %d; want %d, %d", sum, b, got, code, want, wantCode)
	}
}

// long: bytes that do not soon come again, so many.
func long(n int) []byte {
	b := make([]byte, n)
	x := uint32(n + 1)
	for i := range b {
		x = x*1664525 + 1013904223
		b[i] = byte(x >> 24)
	}
	return b
}

func many(n int, c byte) []byte { return bytes.Repeat([]byte{c}, n) }

// samples: lists of bytes that the tests go through.
func samples() [][]byte {
	l := [][]byte{nil, {}, []byte("123456789"), []byte("a"), {0, 255}, {255, 0}, long(1000), long(4097)}
	for c := range 256 {
		l = append(l, []byte{byte(c)})
	}
	for n := 1; n <= 20; n++ {
		l = append(l, many(n, 0), many(n, 255), long(n))
	}
	return l
}

// P4.1
func TestOf(t *testing.T) {
	checkOf(t, nil, 0)
	checkOf(t, []byte{}, 0)
	checkOf(t, []byte("123456789"), 3421780262)
	checkOf(t, []byte("a"), 3904355907)
	checkOf(t, []byte{0}, 3523407757)
	checkOf(t, []byte{255}, 4278190080)
	checkOf(t, many(4, 0), 558161692)
	checkOf(t, many(4, 255), 4294967295)
}

// P4.1
func TestOfIsWhatTheWordsSay(t *testing.T) {
	for _, b := range samples() {
		checkOf(t, b, byTheWords(b))
	}
	for c := range 1 << 16 {
		b := []byte{byte(c), byte(c >> 8)}
		checkOf(t, b, byTheWords(b))
	}
}

// P4.1: at lengths that would take long bit by bit, against another one's sum.
func TestOfLongLists(t *testing.T) {
	for _, b := range [][]byte{long(1 << 20), long(1<<20 + 1), many(1<<20, 0), many(1<<20, 255)} {
		if got, want := Of(b), int(crc32.ChecksumIEEE(b)); got != want {
			t.Errorf("Of %d bytes: %d; want %d", len(b), got, want)
		}
	}
}

// P4.2: bytes cut at each place.
func TestMoreOfTheRest(t *testing.T) {
	for _, b := range samples() {
		for i := range len(b) + 1 {
			checkMore(t, Of(b[:i]), b[i:], Of(b), api.OK)
		}
	}
}

// withSum: four bytes whose sum is this one, found by going the way of a sum backwards.
func withSum(sum int) []byte {
	left := ^uint32(sum)
	for range 32 {
		// The highest bit tells whether the polynomial was taken off.
		if left>>31 == 1 {
			left = (left^0xedb88320)<<1 | 1
		} else {
			left <<= 1
		}
	}
	left = ^left
	return []byte{byte(left), byte(left >> 8), byte(left >> 16), byte(left >> 24)}
}

// P4.2: each number of 32 bits is the sum of some bytes, and goes on as theirs.
func TestMoreAtTheEdges(t *testing.T) {
	for _, sum := range []int{0, 1, 2, 255, 1 << 16, 1<<31 - 1, 1 << 31, 1<<31 + 1, 1<<32 - 2, 1<<32 - 1, 3421780262} {
		first := withSum(sum)
		checkOf(t, first, sum)
		checkMore(t, sum, nil, sum, api.OK)
		checkMore(t, sum, []byte{}, sum, api.OK)
		for _, b := range samples() {
			checkMore(t, sum, b, byTheWords(append(bytes.Clone(first), b...)), api.OK)
		}
	}
}

// P4.2
func TestMoreRefuses(t *testing.T) {
	for _, sum := range []int{-1, -2, 1 << 32, 1<<32 + 1, -1 << 31, -1 << 32, 1 << 33, 1 << 62, 3421780262 + 1<<32, 3421780262 - 1<<32, math.MinInt64, math.MaxInt64} {
		checkMore(t, sum, nil, 0, api.ErrRange)
		checkMore(t, sum, []byte{0}, 0, api.ErrRange)
		checkMore(t, sum, []byte("123456789"), 0, api.ErrRange)
	}
}

// turned: the bytes with bits turned over, from this one on in the row of P4.1.
func turned(b []byte, from int, bits uint64) []byte {
	b = bytes.Clone(b)
	for i := 0; bits>>i != 0; i++ {
		at := from + i
		b[at/8] ^= byte(bits >> i & 1 << (at % 8))
	}
	return b
}

// P4.1, what comes of it: bits turned over within 32 in a row give another sum.
func TestTurnedBitsGiveAnotherSum(t *testing.T) {
	for _, b := range [][]byte{[]byte("123456789"), many(12, 0), many(12, 255), long(40)} {
		was := Of(b)
		for from := range 8*len(b) - 31 {
			for k := range 32 {
				for _, bits := range []uint64{1 << k, 1<<k | 1, 2<<k - 1, 0xedb88320 >> k, 0xc704dd7b >> k, uint64(crc32.ChecksumIEEE([]byte{byte(from), byte(k)}))} {
					if other := turned(b, from, bits); Of(other) == was {
						t.Fatalf("Of(%q) and Of(%q): both %d", b, other, was)
					}
				}
			}
		}
	}
	// Of 33 in a row, the polynomial itself is not seen: the bound of 32 is the whole truth.
	divisor := uint64(0)
	for _, p := range powers {
		divisor |= 1 << (32 - p)
	}
	if b := []byte("123456789"); Of(turned(b, 3, divisor)) != Of(b) {
		t.Error("the polynomial, turned over within bytes, gives another sum")
	}
}

// P4.1, P4.2: what is handed in stays, spare room too, and nothing is kept from call to call.
func TestHandsOff(t *testing.T) {
	for _, b := range samples() {
		given := append(bytes.Clone(b), 1, 2, 3)
		for range 2 {
			checkOf(t, given[:len(b)], byTheWords(b))
			checkMore(t, 0, given[:len(b)], byTheWords(b), api.OK)
		}
		if !bytes.Equal(given, append(bytes.Clone(b), 1, 2, 3)) {
			t.Errorf("%q was changed", b)
		}
	}
}
