package value

import (
	"math"
	"slices"
	"strings"
	"testing"

	"commonhold/api"
)

func truth(i int) api.Value { return api.Value{Kind: api.Truth, Int: i} }

func number(i int) api.Value { return api.Value{Kind: api.Int, Int: i} }

func text(s string) api.Value { return api.Value{Kind: api.Text, Text: s} }

// long: a text of so many bytes.
func long(n int) string { return strings.Repeat("a", n) }

// ascending: values that may be, each one ahead of the next.
func ascending() []api.Value {
	return []api.Value{
		{},
		truth(0), truth(1),
		number(math.MinInt64), number(math.MinInt64 + 1), number(-5), number(-1), number(0), number(1), number(2), number(10),
		number(math.MaxInt64 - 1), number(math.MaxInt64),
		text(""), text("\x00"), text("\x00\x00"), text("10"), text("2"), text("Z"),
		text("a"), text("a\x00"), text(long(api.MaxText - 1)), text(long(api.MaxText)), text("ab"), text("b"),
		text(strings.Repeat("é", api.MaxText/2)), text("\uffff"), text("\U00010000"), text("\U0010ffff"),
	}
}

// wrong: a value that may not be, and what it is refused with.
type wrong struct {
	name string
	v    api.Value
	code api.Errno
}

func refused() []wrong {
	over := long(api.MaxText + 1)
	return []wrong{
		{"a Kind below", api.Value{Kind: -1}, api.ErrKind},
		{"a Kind above", api.Value{Kind: 4}, api.ErrKind},
		{"the least Kind", api.Value{Kind: math.MinInt64}, api.ErrKind},
		{"the greatest Kind", api.Value{Kind: math.MaxInt64}, api.ErrKind},
		{"a Kind that is none, too long", api.Value{Kind: 4, Text: over}, api.ErrKind},
		{"a Kind that is none, no UTF-8", api.Value{Kind: -1, Int: 2, Text: "\xff"}, api.ErrKind},

		{"too long", text(over), api.ErrSize},
		{"too long in bytes, not in runes", text(strings.Repeat("é", api.MaxText/2+1)), api.ErrSize},
		{"too long, no UTF-8", text("\xff" + long(api.MaxText)), api.ErrSize},
		{"too long, with an Int", api.Value{Kind: api.Text, Int: 1, Text: over}, api.ErrSize},
		{"a Null, too long", api.Value{Text: over}, api.ErrSize},
		{"a Truth of 2, too long", api.Value{Kind: api.Truth, Int: 2, Text: over}, api.ErrSize},
		{"an Int, too long", api.Value{Kind: api.Int, Text: over}, api.ErrSize},

		{"a Null with an Int of 1", api.Value{Int: 1}, api.ErrForm},
		{"a Null with an Int below 0", api.Value{Int: -1}, api.ErrForm},
		{"a Null with a Text", api.Value{Text: "a"}, api.ErrForm},
		{"a Null with a Text of MaxText bytes", api.Value{Text: long(api.MaxText)}, api.ErrForm},
		{"a Truth of 2", truth(2), api.ErrForm},
		{"a Truth of -1", truth(-1), api.ErrForm},
		{"a Truth of the least Int", truth(math.MinInt64), api.ErrForm},
		{"a Truth of the greatest Int", truth(math.MaxInt64), api.ErrForm},
		{"a Truth with a Text", api.Value{Kind: api.Truth, Int: 1, Text: "a"}, api.ErrForm},
		{"an Int with a Text", api.Value{Kind: api.Int, Int: 1, Text: "\x00"}, api.ErrForm},
		{"an Int with a Text that is no UTF-8", api.Value{Kind: api.Int, Text: "\xff"}, api.ErrForm},
		{"a Text with an Int", api.Value{Kind: api.Text, Int: 1, Text: "a"}, api.ErrForm},
		{"an empty Text with an Int", api.Value{Kind: api.Text, Int: -1}, api.ErrForm},
		{"a byte that begins no rune", text("\xff"), api.ErrForm},
		{"a rune that goes on without a beginning", text("a\x80"), api.ErrForm},
		{"a rune cut off", text("a\xc3"), api.ErrForm},
		{"a rune of two bytes too many", text("\xc0\x80"), api.ErrForm},
		{"half of a pair", text("\xed\xa0\x80"), api.ErrForm},
		{"a rune beyond the last", text("\xf4\x90\x80\x80"), api.ErrForm},
		{"no UTF-8, of MaxText bytes", text(long(api.MaxText-1) + "\xff"), api.ErrForm},
	}
}

// P2.1
func TestCheckTakesWhatMayBe(t *testing.T) {
	for _, v := range ascending() {
		if code := Check(v); code != api.OK {
			t.Errorf("Check(%#v): %d", v, code)
		}
	}
}

// P2.1
func TestCheckRefuses(t *testing.T) {
	for _, w := range refused() {
		if code := Check(w.v); code != w.code {
			t.Errorf("%s: Check: %d, want %d", w.name, code, w.code)
		}
	}
}

// pair: a call of two values, and how a failure names it.
type pair struct {
	name string
	call func(a, b api.Value) (int, api.Errno)
}

func (p pair) check(t *testing.T, a, b api.Value, want int, wantCode api.Errno) {
	t.Helper()
	if got, code := p.call(a, b); got != want || code != wantCode {
		t.Errorf("%s(%#v, %#v): %d, %d; want %d, %d", p.name, a, b, got, code, want, wantCode)
	}
}

// refuses holds a call to it that what Check refuses is told, of a first.
func (p pair) refuses(t *testing.T) {
	t.Helper()
	for _, w := range refused() {
		for _, v := range ascending() {
			p.check(t, w.v, v, 0, w.code)
			p.check(t, v, w.v, 0, w.code)
		}
		for _, other := range refused() {
			p.check(t, w.v, other.v, 0, w.code)
		}
	}
}

// P2.2
func TestOrder(t *testing.T) {
	o := pair{"Order", Order}
	l := ascending()
	for i, a := range l {
		for _, b := range l[:i] {
			o.check(t, a, b, 1, api.OK)
			o.check(t, b, a, -1, api.OK)
		}
		o.check(t, a, a, 0, api.OK)
	}
	o.refuses(t)
}

// comparison: an op as a pair of values has it.
func comparison(name string, op int) pair {
	return pair{name, func(a, b api.Value) (int, api.Errno) { return Compare(op, a, b) }}
}

// says: a comparison, and what it says of a value ahead of the other one, the same, and behind it.
type says struct {
	pair
	ahead, same, behind int
}

func comparisons() []says {
	return []says{
		{comparison("Equal", api.Equal), api.No, api.Yes, api.No},
		{comparison("Differ", api.Differ), api.Yes, api.No, api.Yes},
		{comparison("Less", api.Less), api.Yes, api.No, api.No},
		{comparison("Most", api.Most), api.Yes, api.Yes, api.No},
		{comparison("More", api.More), api.No, api.No, api.Yes},
		{comparison("Least", api.Least), api.No, api.Yes, api.Yes},
	}
}

// P2.3
func TestCompareOneKind(t *testing.T) {
	l := ascending()[1:]
	for _, c := range comparisons() {
		for i, a := range l {
			for _, b := range l[:i] {
				if a.Kind == b.Kind {
					c.check(t, a, b, c.behind, api.OK)
					c.check(t, b, a, c.ahead, api.OK)
				}
			}
			c.check(t, a, a, c.same, api.OK)
		}
	}
}

// P2.3
func TestCompareNull(t *testing.T) {
	for _, c := range comparisons() {
		for _, v := range ascending() {
			c.check(t, api.Value{}, v, api.Unknown, api.OK)
			c.check(t, v, api.Value{}, api.Unknown, api.OK)
		}
	}
}

// P2.3
func TestCompareTwoKinds(t *testing.T) {
	l := ascending()[1:]
	for _, c := range comparisons() {
		for _, a := range l {
			for _, b := range l {
				if a.Kind != b.Kind {
					c.check(t, a, b, 0, api.ErrType)
				}
			}
		}
	}
}

// P2.3
func TestCompareRefuses(t *testing.T) {
	for _, c := range comparisons() {
		c.refuses(t)
	}
	// A wrong op is told ahead of all that is wrong with the values.
	for _, op := range []int{api.Equal - 1, api.Least + 1, api.And, api.Or, api.Not, 0, -1, math.MinInt64, math.MaxInt64} {
		c := comparison("no comparison", op)
		c.check(t, number(1), number(1), 0, api.ErrKind)
		c.check(t, api.Value{}, api.Value{}, 0, api.ErrKind)
		c.check(t, number(1), text("a"), 0, api.ErrKind)
		c.check(t, text(long(api.MaxText+1)), truth(2), 0, api.ErrKind)
	}
}

// P2.3, what comes of it: just one of less, equal and more is so.
func TestJustOneIsSo(t *testing.T) {
	l := ascending()[1:]
	for _, a := range l {
		for _, b := range l {
			so := 0
			for _, op := range []int{api.Less, api.Equal, api.More} {
				if got, _ := Compare(op, a, b); got == api.Yes {
					so++
				}
			}
			if a.Kind == b.Kind && so != 1 {
				t.Errorf("%#v and %#v: %d of less, equal, more are so", a, b, so)
			}
		}
	}
}

// truths: all truth values, from the least on.
func truths() []int { return []int{api.No, api.Unknown, api.Yes} }

// strangers: numbers that are no truth values.
func strangers() []int { return []int{-1, 3, math.MinInt64, math.MaxInt64} }

// many: And or Or, and how a failure names it.
type many struct {
	name string
	call func(l ...int) (int, api.Errno)
}

func (m many) check(t *testing.T, l []int, want int, wantCode api.Errno) {
	t.Helper()
	// Spare room behind the list, which has to stay as it is too.
	given := append(slices.Clone(l), 77)
	if got, code := m.call(given[:len(l)]...); got != want || code != wantCode {
		t.Errorf("%s(%v): %d, %d; want %d, %d", m.name, l, got, code, want, wantCode)
	}
	if !slices.Equal(given[:len(l)], l) || given[len(l)] != 77 {
		t.Errorf("%s(%v): changed to %v", m.name, l, given)
	}
}

// lists holds a call to what pick answers for one, two, three and many truth values.
func (m many) lists(t *testing.T, pick func([]int) int) {
	t.Helper()
	for _, a := range truths() {
		m.check(t, []int{a}, a, api.OK)
		for _, b := range truths() {
			m.check(t, []int{a, b}, pick([]int{a, b}), api.OK)
			for _, c := range truths() {
				m.check(t, []int{a, b, c}, pick([]int{a, b, c}), api.OK)
			}
		}
		l := slices.Repeat([]int{a}, 1000)
		m.check(t, l, a, api.OK)
		l[500] = api.Unknown
		m.check(t, l, pick(l), api.OK)
	}
}

// refuses holds a call to it that what is no truth value is told, wherever it stands, and whatever is settled ahead of it.
func (m many) refuses(t *testing.T) {
	t.Helper()
	for _, bad := range strangers() {
		m.check(t, []int{bad}, 0, api.ErrRange)
		m.check(t, []int{bad, -bad}, 0, api.ErrRange)
		for _, a := range truths() {
			m.check(t, []int{bad, a}, 0, api.ErrRange)
			m.check(t, []int{a, bad}, 0, api.ErrRange)
			m.check(t, []int{a, bad, a}, 0, api.ErrRange)
		}
	}
}

// holds holds a call to all of its promise: none is what it answers for no truth values at all.
func (m many) holds(t *testing.T, none int, pick func([]int) int) {
	t.Helper()
	m.check(t, nil, none, api.OK)
	m.check(t, []int{}, none, api.OK)
	m.lists(t, pick)
	m.refuses(t)
}

// P2.4
func TestAnd(t *testing.T) {
	many{"And", And}.holds(t, api.Yes, slices.Min[[]int])
}

// P2.4
func TestOr(t *testing.T) {
	many{"Or", Or}.holds(t, api.No, slices.Max[[]int])
}

// P2.4
func TestNot(t *testing.T) {
	want := []int{api.No: api.Yes, api.Unknown: api.Unknown, api.Yes: api.No}
	for _, v := range truths() {
		if got, code := Not(v); got != want[v] || code != api.OK {
			t.Errorf("Not(%d): %d, %d; want %d", v, got, code, want[v])
		}
	}
	for _, v := range strangers() {
		if got, code := Not(v); got != 0 || code != api.ErrRange {
			t.Errorf("Not(%d): %d, %d; want 0, ErrRange", v, got, code)
		}
	}
}

// P2.4, what comes of it: what was known while something was unknown stays so, whichever way that turns out.
func TestKnownStays(t *testing.T) {
	for _, m := range []many{{"And", And}, {"Or", Or}} {
		for _, a := range truths() {
			known, _ := m.call(a, api.Unknown)
			for _, turned := range []int{api.No, api.Yes} {
				if got, _ := m.call(a, turned); known != api.Unknown && got != known {
					t.Errorf("%s(%d, Unknown) was %d, and is %d with %d", m.name, a, known, got, turned)
				}
			}
		}
	}
}

// P2.5
func TestIs(t *testing.T) {
	for _, v := range ascending() {
		want, wantCode := 0, api.ErrType
		switch v {
		case api.Value{}:
			want, wantCode = api.Unknown, api.OK
		case truth(0):
			want, wantCode = api.No, api.OK
		case truth(1):
			want, wantCode = api.Yes, api.OK
		}
		if got, code := Is(v); got != want || code != wantCode {
			t.Errorf("Is(%#v): %d, %d; want %d, %d", v, got, code, want, wantCode)
		}
	}
	for _, w := range refused() {
		if got, code := Is(w.v); got != 0 || code != w.code {
			t.Errorf("%s: Is: %d, %d; want 0, %d", w.name, got, code, w.code)
		}
	}
}

// P2.5
func TestOf(t *testing.T) {
	want := []api.Value{api.No: truth(0), api.Unknown: {}, api.Yes: truth(1)}
	for _, v := range truths() {
		got, code := Of(v)
		if got != want[v] || code != api.OK {
			t.Errorf("Of(%d): %#v, %d; want %#v", v, got, code, want[v])
		}
		if back, code := Is(got); back != v || code != api.OK {
			t.Errorf("Is of Of(%d): %d, %d", v, back, code)
		}
	}
	for _, v := range strangers() {
		if got, code := Of(v); got != (api.Value{}) || code != api.ErrRange {
			t.Errorf("Of(%d): %#v, %d; want nothing, ErrRange", v, got, code)
		}
	}
}
