package plan

import (
	"bytes"
	"math"
	"slices"
	"strings"
	"testing"

	"commonhold/api"
)

// number: the key of a small number from 0 on.
func number(i byte) string { return "\x04\x80\x00\x00\x00\x00\x00\x00" + string([]byte{i}) }

// spanning: an access, from bytes to bytes, both as texts.
func spanning(index int, low, high string) api.Access {
	return between(index, []byte(low), []byte(high))
}

// P15.3: with no limit, fixed, and bounded by each comparison, in either order, to the byte.
func TestRange(t *testing.T) {
	l := several()
	first := number(1) + number(1)
	for _, x := range []struct {
		asked     []api.Expr
		low, high string
	}{
		{all(equal(0, words("x"))), first + "\x05x\x00\x01", first + "\x05x\x00\x02"},
		{all(limiting(0, api.Less, words("x"))), first, first + "\x05x\x00\x01"},
		{all(limiting(0, api.Most, words("x"))), first, first + "\x05x\x00\x02"},
		{all(limiting(0, api.More, words("x"))), first + "\x05x\x00\x02", number(1) + number(2)},
		{all(limiting(0, api.Least, words("x"))), first + "\x05x\x00\x01", number(1) + number(2)},
		{all(of(api.Equal, constant(words("x")), place(0))), first + "\x05x\x00\x01", first + "\x05x\x00\x02"},
		{all(of(api.More, constant(words("x")), place(0))), first, first + "\x05x\x00\x01"},
		{all(of(api.Least, constant(words("x")), place(0))), first, first + "\x05x\x00\x02"},
		{all(of(api.Less, constant(words("x")), place(0))), first + "\x05x\x00\x02", number(1) + number(2)},
		{all(of(api.Most, constant(words("x")), place(0))), first + "\x05x\x00\x01", number(1) + number(2)},
	} {
		checkChoose(t, l, 1, x.asked, spanning(1, x.low, x.high), api.OK)
	}
	for table := range byte(3) {
		checkChoose(t, l, int(table), nil, spanning(0, number(table)+number(0), number(table)+number(1)), api.OK)
	}
	p := number(2) + number(2) + "\x03" + number(7)
	fixed := all(equal(2, truth(1)), equal(3, whole(7)))
	checkChoose(t, l, 2, fixed, spanning(2, p, number(2)+number(2)+"\x03"+number(8)), api.OK)
	checkChoose(t, l, 2, append(fixed, limiting(4, api.Less, whole(9)), limiting(4, api.More, whole(3))), spanning(2, p+number(4), p+number(9)), api.OK)
	checkChoose(t, l, 2, append(fixed, limiting(4, api.Most, whole(9)), limiting(4, api.Least, whole(3))), spanning(2, p+number(3), p+number(10)), api.OK)
}

// orders: all orders of a list.
func orders(l []api.Expr) [][]api.Expr {
	if len(l) == 0 {
		return [][]api.Expr{nil}
	}
	var made [][]api.Expr
	for i, e := range l {
		for _, rest := range orders(slices.Concat(l[:i], l[i+1:])) {
			made = append(made, append(all(e), rest...))
		}
	}
	return made
}

// P15.3: of several that bound a column the narrowest counts, in whatever order.
func TestRangeOfSeveral(t *testing.T) {
	l := several()
	p := number(0) + number(0)
	bound := func(op int, v int) api.Expr { return limiting(0, op, whole(v)) }
	less, most, more, least := api.Less, api.Most, api.More, api.Least
	for _, x := range []struct {
		asked     []api.Expr
		low, high string
	}{
		{all(bound(less, 5), bound(less, 7)), p, p + number(5)},
		{all(bound(most, 5), bound(most, 7)), p, p + number(6)},
		{all(bound(less, 5), bound(most, 5)), p, p + number(5)},
		{all(bound(less, 6), bound(most, 5)), p, p + number(6)},
		{all(bound(less, 7), bound(most, 5)), p, p + number(6)},
		{all(bound(more, 5), bound(more, 7)), p + number(8), number(0) + number(1)},
		{all(bound(least, 5), bound(least, 7)), p + number(7), number(0) + number(1)},
		{all(bound(more, 5), bound(least, 5)), p + number(6), number(0) + number(1)},
		{all(bound(more, 5), bound(least, 6)), p + number(6), number(0) + number(1)},
		{all(bound(more, 5), bound(least, 7)), p + number(7), number(0) + number(1)},
		{all(bound(more, 2), bound(least, 1), bound(less, 9), bound(most, 9)), p + number(3), p + number(9)},
		{all(bound(least, 4), turned(0, least, whole(3)), bound(most, 6), turned(0, most, whole(7))), p + number(4), p + number(7)},
		{all(bound(least, 4), bound(least, 4), bound(most, 4), bound(most, 4)), p + number(4), p + number(5)},
		// Those of other columns bound nothing here.
		{all(bound(least, 4), limiting(1, less, words("x")), limiting(1, more, words("y"))), p + number(4), number(0) + number(1)},
	} {
		for _, asked := range orders(x.asked) {
			checkChoose(t, l, 0, asked, spanning(0, x.low, x.high), api.OK)
		}
	}
}

// P15.3: bounds that leave nothing between them: each end stands where its own bounds say.
func TestRangeOfNothing(t *testing.T) {
	l := several()
	p := number(0) + number(0)
	bound := func(op int, v int) api.Expr { return limiting(0, op, whole(v)) }
	for _, x := range []struct {
		asked     []api.Expr
		low, high string
	}{
		{all(bound(api.More, 7), bound(api.Less, 3)), p + number(8), p + number(3)},
		{all(bound(api.Least, 7), bound(api.Most, 3)), p + number(7), p + number(4)},
		{all(bound(api.Least, 7), bound(api.Less, 7)), p + number(7), p + number(7)},
		{all(bound(api.More, 7), bound(api.Most, 7)), p + number(8), p + number(8)},
		{all(bound(api.More, 7), bound(api.Less, 7)), p + number(8), p + number(7)},
		{all(bound(api.More, 7), bound(api.Less, 8)), p + number(8), p + number(8)},
		{all(bound(api.More, 7), bound(api.Less, 3), bound(api.More, 9)), p + number(10), p + number(3)},
		{all(bound(api.More, 7), bound(api.Less, 3), bound(api.Less, 1)), p + number(8), p + number(1)},
		{all(bound(api.More, 7), bound(api.Less, 3), bound(api.Least, 1), bound(api.Most, 9)), p + number(8), p + number(3)},
	} {
		for _, asked := range orders(x.asked) {
			checkChoose(t, l, 0, asked, spanning(0, x.low, x.high), api.OK)
		}
	}
}

// P15.3: values with the greatest keys, of which Next is asked, and with the least.
func TestRangeOfGreatValues(t *testing.T) {
	l := several()
	ends := strings.Repeat("\xff", 8)
	p := number(0) + number(0)
	top := p + "\x04" + ends
	greatest := whole(math.MaxInt64)
	checkChoose(t, l, 0, all(equal(0, greatest)), spanning(0, top, p+"\x05"), api.OK)
	checkChoose(t, l, 0, all(limiting(0, api.Less, greatest)), spanning(0, p, top), api.OK)
	checkChoose(t, l, 0, all(limiting(0, api.Most, greatest)), spanning(0, p, p+"\x05"), api.OK)
	checkChoose(t, l, 0, all(limiting(0, api.More, greatest)), spanning(0, p+"\x05", number(0)+number(1)), api.OK)
	checkChoose(t, l, 0, all(limiting(0, api.Least, greatest)), spanning(0, top, number(0)+number(1)), api.OK)
	lowest := p + "\x04" + strings.Repeat("\x00", 8)
	checkChoose(t, l, 0, all(limiting(0, api.Less, whole(math.MinInt64))), spanning(0, p, lowest), api.OK)
	checkChoose(t, l, 0, all(limiting(0, api.More, whole(math.MinInt64))), spanning(0, lowest[:len(lowest)-1]+"\x01", number(0)+number(1)), api.OK)
	checkChoose(t, l, 0, all(limiting(0, api.More, whole(255))), spanning(0, p+"\x04\x80\x00\x00\x00\x00\x00\x01", number(0)+number(1)), api.OK)
	checkChoose(t, l, 0, all(limiting(0, api.Most, whole(-1))), spanning(0, p, p+"\x04\x80"), api.OK)
	// One fixed by the greatest number, ahead of one bounded by the greatest truth.
	q := number(1) + number(0) + "\x04" + ends
	checkChoose(t, l, 1, all(equal(2, greatest), limiting(1, api.Most, truth(1))), spanning(0, q, q+"\x04"), api.OK)
	checkChoose(t, l, 1, all(equal(2, greatest), limiting(1, api.More, truth(1))), spanning(0, q+"\x04", number(1)+number(0)+"\x05"), api.OK)
	checkChoose(t, l, 1, all(equal(2, greatest), equal(1, truth(1))), spanning(0, q+"\x03", q+"\x04"), api.OK)
}

// P15.3: the longest keys there are.
func TestRangeOfLongKeys(t *testing.T) {
	l := greatest()
	z := words(zeros)
	long := "\x05" + strings.Repeat("\x00\xff", api.MaxText) + "\x00"
	for table := range byte(4) {
		p := number(table) + number(2)
		three := all(equal(3, z), equal(2, z), equal(1, z))
		checkChoose(t, l, int(table), three, spanning(2, p+strings.Repeat(long+"\x01", 3), p+strings.Repeat(long+"\x01", 2)+long+"\x02"), api.OK)
		two := append(three[:2:2], limiting(1, api.Least, z), limiting(1, api.Most, z))
		checkChoose(t, l, int(table), two, spanning(2, p+strings.Repeat(long+"\x01", 3), p+strings.Repeat(long+"\x01", 2)+long+"\x02"), api.OK)
	}
}

// P15.3: many bounds of one column.
func TestRangeOfMany(t *testing.T) {
	var asked []api.Expr
	for i := range 20000 {
		asked = append(asked, limiting(0, api.Less, whole(30000-i)), limiting(0, api.Least, whole(i-25000)))
	}
	got, code := Choose(several(), 0, asked)
	if code != api.OK || !alike(got, between(0, keyOf(0, 0, whole(-5001)), keyOf(0, 0, whole(10001)))) {
		t.Errorf("%v, %d", got, code)
	}
}

// What holds everywhere: answers are new memory, that whoever gets them may write on, spare room too.
func TestRangesAreNew(t *testing.T) {
	l := several()
	for _, asked := range [][]api.Expr{
		nil, all(equal(0, whole(1))), all(limiting(0, api.Less, whole(5))), all(limiting(0, api.Most, whole(5))), all(limiting(0, api.More, whole(5))), all(limiting(0, api.Least, whole(5))),
		all(limiting(0, api.Least, whole(5)), limiting(0, api.Less, whole(5))), all(limiting(0, api.More, whole(5)), limiting(0, api.Most, whole(5))),
	} {
		first, _ := Choose(l, 0, asked)
		kept, _ := Choose(l, 0, asked)
		if sharing(first) || sharing(first, kept) {
			t.Errorf("%s: %v shares memory", brief(asked), first)
		}
		low, high := bytes.Clone(kept.Range.Low), bytes.Clone(kept.Range.High)
		for _, b := range [][]byte{first.Range.Low, first.Range.High} {
			for i := range b[:cap(b)] {
				b[:cap(b)][i] = 0
			}
		}
		again, _ := Choose(l, 0, asked)
		if !alike(kept, between(0, low, high)) || !alike(again, kept) {
			t.Errorf("%s: %v, then %v", brief(asked), kept, again)
		}
	}
}
