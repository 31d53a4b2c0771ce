package frame

import (
	"bytes"
	"hash/crc32"
	"math"
	"slices"
	"testing"

	"commonhold/api"
)

// lowestFirst: the four bytes of a number, as P5.1 says them.
func lowestFirst(n uint32) []byte {
	return []byte{byte(n), byte(n >> 8), byte(n >> 16), byte(n >> 24)}
}

// framed: a frame that says of its body what it is told to, whether that is so or not.
func framed(size, check uint32, body []byte) []byte {
	return slices.Concat(lowestFirst(size), lowestFirst(check), body)
}

// honest: the frame of a body by the words of P5.1, with another one's sum.
func honest(body []byte) []byte {
	return framed(uint32(len(body)), crc32.ChecksumIEEE(body), body)
}

// mixed: so many bytes, of which hardly two that stand together are alike.
func mixed(n int) []byte {
	body := make([]byte, n)
	for i := range body {
		body[i] = byte(i*i>>3 + 37*i)
	}
	return body
}

func bodies() [][]byte {
	l := [][]byte{nil, {}, []byte("a"), []byte("123456789"), make([]byte, 8), honest([]byte("a")), honest(honest(nil))}
	for c := range 256 {
		l = append(l, []byte{byte(c)})
	}
	for _, n := range []int{2, 3, 4, 5, 7, 8, 9, 100, 254, 255, 256, 257, 511, 512, api.MaxBody - 1, api.MaxBody} {
		l = append(l, mixed(n), make([]byte, n), bytes.Repeat([]byte{255}, n))
	}
	return l
}

// P5.1
func TestSeal(t *testing.T) {
	for _, body := range bodies() {
		f, code := Seal(body)
		if !bytes.Equal(f, honest(body)) || code != api.OK {
			t.Errorf("Seal(%v): %v, %d", body, f, code)
		}
	}
}

// P5.1: frames that are written out.
func TestSealExamples(t *testing.T) {
	for body, want := range map[string][]byte{
		"":          {0, 0, 0, 0, 0, 0, 0, 0},
		"a":         {1, 0, 0, 0, 67, 190, 183, 232, 97},
		"123456789": {9, 0, 0, 0, 0x26, 0x39, 0xf4, 0xcb, '1', '2', '3', '4', '5', '6', '7', '8', '9'},
	} {
		if f, code := Seal([]byte(body)); !bytes.Equal(f, want) || code != api.OK {
			t.Errorf("Seal(%q): %v, %d; want %v", body, f, code, want)
		}
	}
	// A length whose second byte is not 0.
	if f, code := Seal(mixed(api.MaxBody)); code != api.OK || !bytes.Equal(f[:4], []byte{160, 15, 0, 0}) {
		t.Errorf("Seal of MaxBody bytes: %v, %d", f, code)
	}
}

// P5.1
func TestSealRefuses(t *testing.T) {
	for _, n := range []int{api.MaxBody + 1, api.MaxBody + 2, 2 * api.MaxBody, 1 << 16, 1<<16 + 1} {
		if f, code := Seal(mixed(n)); len(f) != 0 || code != api.ErrSize {
			t.Errorf("Seal of %d bytes: %v, %d; want nothing, ErrSize", n, f, code)
		}
	}
}

// behinds: what may stand behind a frame, and is none of Open's business.
func behinds() [][]byte {
	return [][]byte{nil, {0}, {5}, mixed(7), mixed(8), honest(nil), honest([]byte("b")), framed(math.MaxUint32, 0, nil), mixed(2 * api.MaxBody)}
}

// P5.1, P5.2: what was sealed is opened, whatever stands behind it.
func TestOpen(t *testing.T) {
	for _, want := range bodies() {
		f, _ := Seal(want)
		for _, behind := range behinds() {
			body, size, code := Open(slices.Concat(f, behind))
			if !bytes.Equal(body, want) || size != 8+len(want) || code != api.OK {
				t.Fatalf("Open of %v and %v: %v, %d, %d", f, behind, body, size, code)
			}
		}
	}
}

func openRefuses(t *testing.T, b []byte, want api.Errno) {
	t.Helper()
	if body, size, code := Open(b); len(body) != 0 || size != 0 || code != want {
		t.Errorf("Open(%v): %v, %d, %d; want nothing, 0, %d", b, body, size, code, want)
	}
}

// P5.2: fewer than eight bytes are too few, whatever they tell.
func TestOpenWithoutHead(t *testing.T) {
	openRefuses(t, nil, api.ErrShort)
	for n := range 8 {
		openRefuses(t, make([]byte, n), api.ErrShort)
		openRefuses(t, honest([]byte("a"))[:n], api.ErrShort)
		// So too where the length that is told is too great.
		openRefuses(t, bytes.Repeat([]byte{255}, n), api.ErrShort)
		openRefuses(t, framed(api.MaxBody+1, 0, nil)[:n], api.ErrShort)
	}
	if body, size, code := Open(make([]byte, 8)); len(body) != 0 || size != 8 || code != api.OK {
		t.Errorf("Open of eight bytes 0: %v, %d, %d", body, size, code)
	}
}

// P5.2
func TestOpenTooGreat(t *testing.T) {
	over := mixed(api.MaxBody + 1)
	openRefuses(t, honest(over), api.ErrSize)
	for _, size := range []uint32{api.MaxBody + 1, api.MaxBody + 2, api.MaxBody + 256, 1 << 16, 1 << 24, 1<<16 + 1, 1<<24 + 1, math.MaxInt32, 1 << 31, 1<<31 + 1, math.MaxUint32 - 8, math.MaxUint32 - 7, math.MaxUint32} {
		// Ahead of a body that is not there, and of a sum that is another one.
		for _, body := range [][]byte{nil, {1}, over} {
			openRefuses(t, framed(size, 0, body), api.ErrSize)
			openRefuses(t, framed(size, crc32.ChecksumIEEE(body), body), api.ErrSize)
			openRefuses(t, framed(size, math.MaxUint32, body), api.ErrSize)
		}
	}
	// MaxBody itself is not too great, so other things are told of it.
	openRefuses(t, framed(api.MaxBody, 0, nil), api.ErrShort)
	openRefuses(t, honest(over[1:])[:api.MaxBody+7], api.ErrShort)
	openRefuses(t, framed(api.MaxBody, 0, over), api.ErrSum)
}

// P5.2: frames cut at each place.
func TestOpenTorn(t *testing.T) {
	for _, body := range bodies() {
		f := honest(body)
		for n := range f {
			if n > 300 && n < len(f)-300 {
				continue
			}
			openRefuses(t, f[:n], api.ErrShort)
			// Spare room is none of the frame.
			openRefuses(t, f[:n:n], api.ErrShort)
		}
	}
	// Too short is told ahead of a sum that is another one.
	openRefuses(t, framed(2, 0, []byte("a")), api.ErrShort)
	openRefuses(t, framed(10, crc32.ChecksumIEEE([]byte("123456789")), []byte("123456789")), api.ErrShort)
	openRefuses(t, framed(1, 0, nil), api.ErrShort)
}

// turned: the bytes with one bit turned over.
func turned(b []byte, bit int) []byte {
	b = bytes.Clone(b)
	b[bit/8] ^= 1 << (bit % 8)
	return b
}

// P5.2: one bit of the sum, or of the body, is another one.
func TestOpenAnotherSum(t *testing.T) {
	for _, body := range bodies() {
		f := honest(body)
		for bit := 4 * 8; bit < 8*min(len(f), 300); bit++ {
			openRefuses(t, turned(f, bit), api.ErrSum)
		}
	}
	full := honest(mixed(api.MaxBody))
	for bit := 8 * (len(full) - 2); bit < 8*len(full); bit++ {
		openRefuses(t, turned(full, bit), api.ErrSum)
	}
	// Sums of bodies alone: of no more bytes, and of no fewer.
	openRefuses(t, framed(0, crc32.ChecksumIEEE([]byte("a")), []byte("a")), api.ErrSum)
	openRefuses(t, framed(1, crc32.ChecksumIEEE([]byte("ab")), []byte("ab")), api.ErrSum)
	openRefuses(t, framed(2, crc32.ChecksumIEEE([]byte("a")), []byte("ab")), api.ErrSum)
	openRefuses(t, framed(0, math.MaxUint32, nil), api.ErrSum)
}

// inARow: the frames of bodies, one behind another.
func inARow(l ...[]byte) []byte {
	var b []byte
	for _, body := range l {
		b = append(b, honest(body)...)
	}
	return b
}

func checkCut(t *testing.T, b []byte, want [][]byte, place int, wantCode api.Errno) {
	t.Helper()
	l, at, code := Cut(b)
	if !slices.EqualFunc(l, want, bytes.Equal) || at != place || code != wantCode {
		t.Errorf("Cut of %d bytes: %v, %d, %d; want %v, %d, %d", len(b), l, at, code, want, place, wantCode)
	}
}

// rows: lists of bodies that can be cut.
func rows() [][][]byte {
	l := [][][]byte{nil, {nil}, {nil, nil}, {[]byte("a"), nil, []byte("bc")}, slices.Repeat([][]byte{[]byte("ab")}, api.MaxFrames-1)}
	for _, body := range bodies() {
		l = append(l, [][]byte{body}, [][]byte{body, []byte("a"), body})
	}
	return append(l, bodies()[:api.MaxFrames-1])
}

// P5.3
func TestCut(t *testing.T) {
	checkCut(t, nil, nil, 0, api.OK)
	checkCut(t, []byte{}, nil, 0, api.OK)
	for _, l := range rows() {
		b := inARow(l...)
		checkCut(t, b, l, len(b), api.OK)
	}
}

// P5.3
func TestCutMaxFrames(t *testing.T) {
	for _, body := range [][]byte{nil, []byte("a"), mixed(api.MaxBody)} {
		l := slices.Repeat([][]byte{body}, api.MaxFrames)
		b := inARow(l...)
		checkCut(t, b, l, len(b), api.OK)
		for _, next := range [][]byte{nil, []byte("a"), mixed(api.MaxBody)} {
			checkCut(t, slices.Concat(b, honest(next)), l, len(b), api.ErrFull)
			checkCut(t, slices.Concat(b, honest(next), honest(next)), l, len(b), api.ErrFull)
			// What stands behind a frame too many is not looked at.
			checkCut(t, slices.Concat(b, honest(next), []byte{1}), l, len(b), api.ErrFull)
		}
	}
	checkCut(t, make([]byte, 8*1000), make([][]byte, api.MaxFrames), 8*api.MaxFrames, api.ErrFull)
}

// P5.3: a frame behind others that Open refuses; so it is named, too, where MaxFrames are ahead of it.
func TestCutRefuses(t *testing.T) {
	long := honest([]byte("123456789"))
	for _, l := range append(rows(), slices.Repeat([][]byte{[]byte("x")}, api.MaxFrames)) {
		b := inARow(l...)
		for n := 1; n < len(long); n++ {
			checkCut(t, slices.Concat(b, long[:n]), l, len(b), api.ErrShort)
		}
		for _, behind := range [][]byte{nil, {0}, long} {
			checkCut(t, slices.Concat(b, framed(api.MaxBody+1, 0, nil), behind), l, len(b), api.ErrSize)
			checkCut(t, slices.Concat(b, framed(math.MaxUint32, 0, nil), behind), l, len(b), api.ErrSize)
			checkCut(t, slices.Concat(b, turned(long, 40), behind), l, len(b), api.ErrSum)
			checkCut(t, slices.Concat(b, turned(long, 100), behind), l, len(b), api.ErrSum)
			checkCut(t, slices.Concat(b, framed(api.MaxBody, 0, nil), behind), l, len(b), api.ErrShort)
		}
	}
}

// P5.3: frames in a row that are cut at each place: whole frames are answered, and where the torn one begins.
func TestCutTorn(t *testing.T) {
	l := [][]byte{[]byte("a"), nil, mixed(20), []byte("bc"), nil}
	b := inARow(l...)
	for n := range len(b) + 1 {
		whole, place := 0, 0
		for whole < len(l) && place+8+len(l[whole]) <= n {
			place += 8 + len(l[whole])
			whole++
		}
		want := api.ErrShort
		if place == n {
			want = api.OK
		}
		checkCut(t, b[:n], l[:whole], place, want)
	}
}

// spare: bytes with three behind them that have to stay as they are.
func spare(b []byte) []byte {
	return append(bytes.Clone(b), 7, 8, 9)[:len(b)]
}

// stays: is what spare gave still so?
func stays(t *testing.T, what string, b, was []byte) {
	t.Helper()
	if !bytes.Equal(b[:len(b)+3], append(bytes.Clone(was), 7, 8, 9)) {
		t.Errorf("%s: what was handed in was changed: %v", what, was)
	}
}

// spoil writes over all of an answer's memory.
func spoil(b []byte) {
	b = b[:cap(b)]
	for i := range b {
		b[i] ^= 85
	}
}

// P5.1, P5.2: what is handed in stays, and what comes out is new, each time.
func TestSealAndOpenShareNothing(t *testing.T) {
	for _, body := range bodies() {
		f := honest(body)
		bodyIn, frameIn := spare(body), spare(f)
		for range 2 {
			sealed, _ := Seal(bodyIn)
			opened, _, _ := Open(frameIn)
			if !bytes.Equal(sealed, f) || !bytes.Equal(opened, body) {
				t.Fatalf("not the same again: %v", body)
			}
			spoil(sealed)
			spoil(opened)
			stays(t, "Seal", bodyIn, body)
			stays(t, "Open", frameIn, f)
		}
		sealed, _ := Seal(bodyIn)
		opened, _, _ := Open(frameIn)
		spoil(bodyIn)
		spoil(frameIn)
		if !bytes.Equal(sealed, f) || !bytes.Equal(opened, body) {
			t.Errorf("kept what was handed in: %v", body)
		}
	}
}

// P5.3: bodies share nothing with what was handed in, nor with each other, with an error beside them neither.
func TestCutSharesNothing(t *testing.T) {
	for _, l := range rows() {
		for _, behind := range [][]byte{nil, {1, 0}, turned(honest(nil), 60)} {
			b := slices.Concat(inARow(l...), behind)
			given := spare(b)
			cut, _, _ := Cut(given)
			for i := range cut {
				if !bytes.Equal(cut[i], l[i]) {
					t.Fatalf("body %d of %v shares memory with one ahead of it", i, l)
				}
				spoil(cut[i])
				stays(t, "Cut", given, b)
			}
			again, _, _ := Cut(given)
			spoil(given)
			if !slices.EqualFunc(again, l, bytes.Equal) {
				t.Errorf("Cut keeps what it was handed: %v", l)
			}
		}
	}
}
