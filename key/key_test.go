package key

import (
	"bytes"
	"math"
	"slices"
	"strings"
	"testing"

	"commonhold/api"
	"commonhold/value"
)

// sample: a list of values and its key.
type sample struct {
	l []api.Value
	k string
}

func list(l ...api.Value) []api.Value { return l }

// of: so many times the same value.
func of(n int, v api.Value) []api.Value { return slices.Repeat([]api.Value{v}, n) }

func isTrue(i int) api.Value { return api.Value{Kind: api.Truth, Int: i} }

func whole(i int) api.Value { return api.Value{Kind: api.Int, Int: i} }

func words(s string) api.Value { return api.Value{Kind: api.Text, Text: s} }

func samples() []sample {
	full := strings.Repeat("a", api.MaxText)
	zeros := strings.Repeat("\x00", api.MaxText)
	return []sample{
		{nil, ""},
		{list(api.Value{}), "\x01"},
		{list(isTrue(0)), "\x02"},
		{list(isTrue(1)), "\x03"},
		{list(whole(0)), "\x04\x80\x00\x00\x00\x00\x00\x00\x00"},
		{list(whole(1)), "\x04\x80\x00\x00\x00\x00\x00\x00\x01"},
		{list(whole(-1)), "\x04\x7f\xff\xff\xff\xff\xff\xff\xff"},
		{list(whole(0x0123456789abcdef)), "\x04\x81\x23\x45\x67\x89\xab\xcd\xef"},
		{list(whole(math.MinInt64)), "\x04\x00\x00\x00\x00\x00\x00\x00\x00"},
		{list(whole(math.MaxInt64)), "\x04\xff\xff\xff\xff\xff\xff\xff\xff"},
		{list(words("")), "\x05\x00\x01"},
		{list(words("a")), "\x05a\x00\x01"},
		{list(words("\x00")), "\x05\x00\xff\x00\x01"},
		{list(words("\x00\x00")), "\x05\x00\xff\x00\xff\x00\x01"},
		{list(words("\x01")), "\x05\x01\x00\x01"},
		{list(words("\x00\x01")), "\x05\x00\xff\x01\x00\x01"},
		{list(words("\x01\x00")), "\x05\x01\x00\xff\x00\x01"},
		{list(words("a\x00b")), "\x05a\x00\xffb\x00\x01"},
		{list(words("ÿ")), "\x05\xc3\xbf\x00\x01"},
		{list(words("\U0010ffff")), "\x05\xf4\x8f\xbf\xbf\x00\x01"},
		{list(words(full)), "\x05" + full + "\x00\x01"},
		{list(words(zeros)), "\x05" + strings.Repeat("\x00\xff", api.MaxText) + "\x00\x01"},
		{list(words(""), words("")), "\x05\x00\x01\x05\x00\x01"},
		{list(api.Value{}, isTrue(1), whole(-2), words("b"), api.Value{}), "\x01\x03\x04\x7f\xff\xff\xff\xff\xff\xff\xfe\x05b\x00\x01\x01"},
		{of(api.MaxList, api.Value{}), strings.Repeat("\x01", api.MaxList)},
		{of(api.MaxList, words(zeros)), strings.Repeat("\x05"+strings.Repeat("\x00\xff", api.MaxText)+"\x00\x01", api.MaxList)},
	}
}

// P3.1
func TestEncode(t *testing.T) {
	for _, s := range samples() {
		k, code := Encode(s.l)
		if string(k) != s.k || code != api.OK {
			t.Errorf("Encode(%#v): %q, %d; want %q", s.l, k, code, s.k)
		}
	}
}

// wrongValues: values that P2.1 refuses, one for each of its errors.
func wrongValues() []api.Value {
	return []api.Value{
		{Kind: -1},
		{Kind: api.Text + 1},
		words(strings.Repeat("a", api.MaxText+1)),
		words("\xff"),
		isTrue(2),
		{Int: 1},
		{Kind: api.Int, Text: "a"},
	}
}

func encodeRefuses(t *testing.T, l []api.Value, want api.Errno) {
	t.Helper()
	if k, code := Encode(l); len(k) != 0 || code != want {
		t.Errorf("Encode(%#v): %q, %d; want nothing, %d", l, k, code, want)
	}
}

// P3.1
func TestEncodeRefuses(t *testing.T) {
	encodeRefuses(t, of(api.MaxList+1, api.Value{}), api.ErrSize)
	encodeRefuses(t, of(1000, whole(1)), api.ErrSize)
	for _, bad := range wrongValues() {
		want := value.Check(bad)
		encodeRefuses(t, list(bad), want)
		encodeRefuses(t, list(whole(1), bad), want)
		encodeRefuses(t, append(of(api.MaxList-1, words("a")), bad), want)
		// Too many is told ahead of what is wrong with one of them.
		encodeRefuses(t, of(api.MaxList+1, bad), api.ErrSize)
		for _, other := range wrongValues() {
			encodeRefuses(t, list(bad, other), want)
		}
	}
}

// P3.2
func TestDecode(t *testing.T) {
	for _, s := range samples() {
		l, at, code := Decode([]byte(s.k))
		if !slices.Equal(l, s.l) || at != 0 || code != api.OK {
			t.Errorf("Decode(%q): %#v, %d, %d; want %#v", s.k, l, at, code, s.l)
		}
	}
}

func decodeRefuses(t *testing.T, k string, place int, want api.Errno) {
	t.Helper()
	if l, at, code := Decode([]byte(k)); len(l) != 0 || at != place || code != want {
		t.Errorf("Decode(%q): %#v, %d, %d; want nothing, %d, %d", k, l, at, code, place, want)
	}
}

// P3.2
func TestDecodeTooManyBytes(t *testing.T) {
	over := strings.Repeat("\x01", api.MaxKey+1)
	decodeRefuses(t, over, 0, api.ErrSize)
	// Ahead of whatever the bytes are.
	decodeRefuses(t, "\x07"+over[1:], 0, api.ErrSize)
	decodeRefuses(t, "\x05\x00\x02"+over[3:], 0, api.ErrSize)
	decodeRefuses(t, "\x05"+strings.Repeat("a", api.MaxKey), 0, api.ErrSize)
	// Just MaxKey of them are looked at.
	decodeRefuses(t, "\x07"+over[2:], 0, api.ErrKind)
	decodeRefuses(t, "\x05"+strings.Repeat("a", api.MaxKey-1), 0, api.ErrShort)
	decodeRefuses(t, "\x01\x05"+strings.Repeat("a", api.MaxKey-4)+"\x00\x01", 1, api.ErrSize)
	decodeRefuses(t, over[1:], api.MaxList, api.ErrSize)
}

// P3.2
func TestDecodeTooManyValues(t *testing.T) {
	one := "\x05a\x00\x01"
	full := strings.Repeat(one, api.MaxList)
	// Whatever comes behind MaxList values is refused for it, and by its own place.
	for _, behind := range []string{"\x01", one, "\x00", "\x07", "\x04", "\x05", "\x05\x00\x02", "\x01\x07"} {
		decodeRefuses(t, full+behind, len(full), api.ErrSize)
	}
	// What is wrong with a value ahead of it comes first.
	decodeRefuses(t, strings.Repeat(one, api.MaxList-1)+"\x07\x01", len(full)-len(one), api.ErrKind)
}

// P3.2
func TestDecodeFirstByte(t *testing.T) {
	for c := range 256 {
		if c >= 1 && c <= 5 {
			continue
		}
		first := string([]byte{byte(c)})
		decodeRefuses(t, first, 0, api.ErrKind)
		decodeRefuses(t, "\x01\x02\x03"+first, 3, api.ErrKind)
		decodeRefuses(t, "\x05a\x00\x01"+first+"\x01", 4, api.ErrKind)
		decodeRefuses(t, first+first, 0, api.ErrKind)
	}
}

// P3.2: bytes that end within a value, at each place.
func TestDecodeShort(t *testing.T) {
	for _, s := range samples() {
		for _, v := range s.l {
			k, _ := Encode(list(v))
			for n := 1; n < len(k); n++ {
				decodeRefuses(t, string(k[:n]), 0, api.ErrShort)
				decodeRefuses(t, "\x04\x80\x00\x00\x00\x00\x00\x00\x00\x03"+string(k[:n]), 10, api.ErrShort)
			}
		}
	}
}

// P3.2
func TestDecodeZeroWithinText(t *testing.T) {
	for c := range 255 {
		if c == 1 {
			continue
		}
		behind := "\x00" + string([]byte{byte(c)})
		decodeRefuses(t, "\x05"+behind, 0, api.ErrForm)
		decodeRefuses(t, "\x05ab"+behind+"\x00\x01", 0, api.ErrForm)
		decodeRefuses(t, "\x02\x05\x00\xff"+behind+"c", 1, api.ErrForm)
	}
	// The byte behind a byte 0 is taken with it: 0, 0 is no beginning of a second pair.
	decodeRefuses(t, "\x05\x00\x00\x01", 0, api.ErrForm)
	// Of the end and the wrong byte, what comes first.
	decodeRefuses(t, "\x05a\x00\x02\x00", 0, api.ErrForm)
	decodeRefuses(t, "\x05a\x00", 0, api.ErrShort)
	// What follows the end of a Text belongs to the next value.
	decodeRefuses(t, "\x05\x00\x01\x00\x02", 3, api.ErrKind)
}

// P3.2
func TestDecodeText(t *testing.T) {
	long := strings.Repeat("a", api.MaxText+1)
	decodeRefuses(t, "\x05"+long+"\x00\x01", 0, api.ErrSize)
	decodeRefuses(t, "\x03\x05"+long+"\x00\x01\x07", 1, api.ErrSize)
	decodeRefuses(t, "\x05"+strings.Repeat("\x00\xff", api.MaxText+1)+"\x00\x01", 0, api.ErrSize)
	// How it ends is told ahead of how long it is, and that ahead of UTF-8.
	decodeRefuses(t, "\x05"+long, 0, api.ErrShort)
	decodeRefuses(t, "\x05"+long+"\x00", 0, api.ErrShort)
	decodeRefuses(t, "\x05"+long+"\x00\x02", 0, api.ErrForm)
	decodeRefuses(t, "\x05\xff"+long+"\x00\x01", 0, api.ErrSize)
	decodeRefuses(t, "\x05\xff", 0, api.ErrShort)
	for _, bad := range []string{"\xff", "a\x80", "\xc3", "\xc0\x80", "\xed\xa0\x80", "\xf4\x90\x80\x80", "\xc3\x00\xff\xbf", long[1:api.MaxText] + "\xff"} {
		decodeRefuses(t, "\x05"+bad+"\x00\x01", 0, api.ErrForm)
		decodeRefuses(t, "\x05a\x00\x01\x05"+bad+"\x00\x01", 4, api.ErrForm)
	}
}

// strands: all byte texts of these letters, of at most so many bytes.
func strands(letters string, most int) []string {
	all := []string{""}
	for from := 0; most > 0; most-- {
		to := len(all)
		for _, s := range all[from:to] {
			for i := range len(letters) {
				all = append(all, s+letters[i:i+1])
			}
		}
		from = to
	}
	return all
}

// P3.1, P3.2: what can be decoded is the key of just what it is decoded to.
func TestEncodeOfDecode(t *testing.T) {
	keys := 0
	for _, s := range strands("\x00\x01\x02\x03\x04\x05a\xff", 6) {
		l, at, code := Decode([]byte(s))
		if code != api.OK {
			if len(l) != 0 || at < 0 || at >= len(s) {
				t.Fatalf("Decode(%q): %#v, %d, %d", s, l, at, code)
			}
			continue
		}
		keys++
		if k, code := Encode(l); string(k) != s || code != api.OK {
			t.Fatalf("Encode of Decode(%q): %q, %d", s, k, code)
		}
	}
	if keys < 1000 {
		t.Errorf("only %d keys were met", keys)
	}
}

// orderOf: the order of two lists, value by value, a list ahead of what begins with it.
func orderOf(a, b []api.Value) int {
	return slices.CompareFunc(a, b, func(x, y api.Value) int {
		n, _ := value.Order(x, y)
		return n
	})
}

// P3.1, what comes of it: keys stand in the order of their lists.
func TestKeysStandInOrder(t *testing.T) {
	values := list(api.Value{}, isTrue(0), isTrue(1),
		whole(math.MinInt64), whole(-256), whole(-1), whole(0), whole(1), whole(255), whole(256), whole(math.MaxInt64),
		words(""), words("\x00"), words("\x00\x00"), words("\x00\x01"), words("\x01"), words("\x02"), words("a"), words("a\x00"), words("a\x01"), words("aa"), words("ÿ"))
	lists := [][]api.Value{nil}
	for _, v := range values {
		lists = append(lists, list(v))
		for _, w := range values {
			lists = append(lists, list(v, w))
		}
	}
	for _, a := range lists {
		for _, b := range lists {
			ka, _ := Encode(a)
			kb, _ := Encode(b)
			if got, want := bytes.Compare(ka, kb), orderOf(a, b); got != want {
				t.Fatalf("%#v and %#v: keys in the order %d, want %d", a, b, got, want)
			}
		}
	}
}

func checkNext(t *testing.T, b, want string, wantCode api.Errno) {
	t.Helper()
	if got, code := Next([]byte(b)); string(got) != want || code != wantCode {
		t.Errorf("Next(%q): %q, %d; want %q, %d", b, got, code, want, wantCode)
	}
}

// P3.3
func TestNext(t *testing.T) {
	high := strings.Repeat("\xff", api.MaxKey)
	checkNext(t, "a", "b", api.OK)
	checkNext(t, "\x00", "\x01", api.OK)
	checkNext(t, "a\x00", "a\x01", api.OK)
	checkNext(t, "a\xfe", "a\xff", api.OK)
	checkNext(t, "a\xff", "b", api.OK)
	checkNext(t, "a\xff\xff", "b", api.OK)
	checkNext(t, "\xff\x01\xff", "\xff\x02", api.OK)
	checkNext(t, "\xff\xfe", "\xff\xff", api.OK)
	checkNext(t, "\xff\xfe\xff", "\xff\xff", api.OK)
	checkNext(t, high[1:]+"a", high[1:]+"b", api.OK)
	checkNext(t, "a"+high[1:], "b", api.OK)
	checkNext(t, "", "", api.ErrNone)
	checkNext(t, "\xff", "", api.ErrNone)
	checkNext(t, "\xff\xff", "", api.ErrNone)
	checkNext(t, high, "", api.ErrNone)
	// Too many bytes are told ahead of all else.
	checkNext(t, high+"\xff", "", api.ErrSize)
	checkNext(t, high+"a", "", api.ErrSize)
	checkNext(t, strings.Repeat("a", api.MaxKey+1), "", api.ErrSize)
	if _, code := Next(nil); code != api.ErrNone {
		t.Errorf("Next(nil): %d", code)
	}
}

// P3.3: what is at least Next is just what is greater than whatever begins with b.
func TestNextIsTheLeast(t *testing.T) {
	all := strands("\x00\x01\xfe\xff", 4)
	for _, b := range strands("\x00\x01\xfe\xff", 3) {
		next, code := Next([]byte(b))
		for _, s := range all {
			above := s > b && !strings.HasPrefix(s, b)
			if got := code == api.OK && s >= string(next); got != above {
				t.Fatalf("Next(%q): %q, %d: for %q", b, next, code, s)
			}
		}
	}
}

// roomy: the bytes, with spare room that has to stay as it is.
func roomy(b string) []byte {
	l := append([]byte(b), 77, 77, 77)
	return l[:len(b)]
}

// left tells whether bytes of roomy are still as they were, spare room too.
func left(b []byte, was string) bool {
	return string(b[:len(was)+3]) == was+"\x4d\x4d\x4d"
}

// scrawl overwrites an answer, spare room too.
func scrawl(b []byte) {
	for i := range b[:cap(b)] {
		b[:cap(b)][i] = 88
	}
}

// P3.3: what is handed in stays, and what comes out is its caller's.
func TestNextKeepsItsHandsOff(t *testing.T) {
	for _, b := range []string{"a", "a\xff", "a\xff\xff", "ab\xfe"} {
		given := roomy(b)
		n, _ := Next(given)
		scrawl(n)
		if !left(given, b) {
			t.Errorf("Next(%q) shares or changes what it was handed", b)
		}
	}
}

// P3.1, P3.2: what is handed in stays, and what comes out is its caller's.
func TestListsAreTheirCallers(t *testing.T) {
	for _, s := range samples() {
		given := roomy(s.k)
		l, _, _ := Decode(given)
		if !left(given, s.k) {
			t.Errorf("Decode changes %q", s.k)
		}
		scrawl(given)
		if !slices.Equal(l, s.l) {
			t.Errorf("Decode keeps bytes of %q", s.k)
		}
		spare := append(slices.Clone(s.l), whole(77))
		first, _ := Encode(spare[:len(s.l)])
		scrawl(first)
		if again, _ := Encode(spare[:len(s.l)]); string(again) != s.k || spare[len(s.l)] != whole(77) {
			t.Errorf("Encode(%#v) is not the same again", s.l)
		}
	}
}
