package rel

import (
	"slices"
	"testing"

	"commonhold/api"
)

// P12.3: the order of the pairs, and of the values in them.
func TestJoin(t *testing.T) {
	a := rowsOf(row(number(2), text("x")), row(number(1), text("y")), row(number(2), text("z")))
	b := column(number(1), number(2))
	two, one := number(2), number(1)
	all := rowsOf(row(two, text("x"), one), row(two, text("x"), two), row(one, text("y"), one), row(one, text("y"), two), row(two, text("z"), one), row(two, text("z"), two))
	for _, x := range []struct {
		asked []api.Expr
		want  [][]api.Value
	}{
		{nil, all},
		{exprs(yes()), all},
		{exprs(api.Expr{}), all},
		{exprs(api.Expr{}, yes(), api.Expr{}), all},
		{exprs(no()), nil},
		{exprs(null()), nil},
		{exprs(yes(), null()), nil},
		{exprs(by(api.Equal, place(0), place(2))), rowsOf(all[1], all[2], all[5])},
		{exprs(by(api.Less, place(0), place(2))), rowsOf(all[3])},
		{exprs(by(api.Equal, place(0), place(2)), by(api.Differ, place(1), constant(text("x")))), rowsOf(all[2], all[5])},
		{exprs(by(api.Differ, place(1), constant(text("x"))), by(api.Equal, place(2), whole(1)), by(api.Equal, place(0), whole(2))), rowsOf(all[4])},
	} {
		check(t, join, handed{rows: a, other: b, exprs: x.asked}, x.want, api.OK)
	}
	check(t, join, handed{rows: b, other: a[:1]}, rowsOf(row(one, two, text("x")), row(two, two, text("x"))), api.OK)
	check(t, join, handed{rows: b, other: b}, rowsOf(row(one, one), row(one, two), row(two, one), row(two, two)), api.OK)
	check(t, join, handed{rows: make([][]api.Value, 2), other: make([][]api.Value, 3)}, make([][]api.Value, 6), api.OK)
	check(t, join, handed{rows: make([][]api.Value, 2), other: b}, slices.Concat(b, b), api.OK)
}

// P12.3: where one side has no rows, nothing is asked.
func TestJoinOfNone(t *testing.T) {
	for _, e := range exprs(yes(), zero(), place(0), place(-1), api.Expr{Op: 99}, by(api.CountAll)) {
		for _, rows := range [][][]api.Value{nil, {}, {{}}, counted(3), counted(api.MaxRows)} {
			check(t, join, handed{rows: rows, exprs: exprs(e)}, nil, api.OK)
			check(t, join, handed{other: rows, exprs: exprs(e)}, nil, api.OK)
		}
	}
}

// P12.3: what is refused, and that behind one that does not hold nothing is.
func TestJoinRefuses(t *testing.T) {
	a, b := numbers(1, 2), numbers(3, 4)
	refusal := by(api.Equal, zero(), whole(1))
	for _, e := range exprs(no(), null(), by(api.More, place(0), place(1))) {
		for _, other := range exprs(refusal, whole(1), place(2), api.Expr{Op: 99}) {
			check(t, join, handed{rows: a, other: b, exprs: exprs(e, other)}, nil, api.OK)
			check(t, join, handed{rows: a, other: b, exprs: exprs(yes(), e, other)}, nil, api.OK)
			check(t, join, handed{rows: a, other: b, exprs: exprs(by(api.And, e, by(api.Equal, zero(), place(0))))}, nil, api.OK)
		}
		refused(t, join, handed{rows: a, other: b, exprs: exprs(refusal, e)}, api.ErrZero)
		refused(t, join, handed{rows: a, other: b, exprs: exprs(yes(), refusal, e)}, api.ErrZero)
		refused(t, join, handed{rows: a, other: b, exprs: exprs(place(2), e)}, api.ErrForm)
		refused(t, join, handed{rows: a, other: b, exprs: exprs(place(0), e)}, api.ErrType)
	}
	for _, x := range []struct {
		asked []api.Expr
		code  api.Errno
	}{
		{exprs(refusal, whole(1)), api.ErrZero},
		{exprs(whole(1), refusal), api.ErrType},
		{exprs(yes(), place(-1), refusal), api.ErrForm},
		{exprs(by(api.Max, place(0))), api.ErrForm},
		{exprs(yes(), api.Expr{Name: "a"}), api.ErrForm},
	} {
		refused(t, join, handed{rows: a, other: b, exprs: x.asked}, x.code)
	}
}

// P12.3: the first pair of which something is refused tells what.
func TestJoinRefusesByPairs(t *testing.T) {
	// Refused of a pair whose product is 0, or of which one is a Text.
	e := by(api.Least, by(api.Rest, whole(1), by(api.Times, place(0), place(1))), whole(0))
	for _, x := range []struct {
		a, b [][]api.Value
		code api.Errno
	}{
		{numbers(1, 0), numbers(1, 2), api.ErrZero},
		{numbers(1, 2), numbers(1, 0), api.ErrZero},
		{column(number(1), text("")), numbers(1, 0), api.ErrZero},
		{column(text(""), number(1)), numbers(1, 0), api.ErrType},
		{column(number(1), number(0)), column(number(1), text("")), api.ErrType},
		{column(number(0), number(1)), column(number(1), text("")), api.ErrZero},
		{column(number(1), number(0)), column(text(""), number(1)), api.ErrType},
	} {
		refused(t, join, handed{rows: x.a, other: x.b, exprs: exprs(e)}, x.code)
	}
}

// numbered: which pair it is, where the second list has so many rows that are counted, as the first one is.
func numbered(width int) api.Expr {
	return by(api.Plus, by(api.Times, place(0), whole(width)), place(1))
}

// zeroAt: holds of the pairs ahead of one, and is refused of that one.
func zeroAt(width, n int) api.Expr {
	return by(api.Least, by(api.Over, whole(1), by(api.Minus, whole(n), numbered(width))), whole(0))
}

// product: the pairs of counted rows.
func product(a, b int) [][]api.Value {
	var rows [][]api.Value
	for i := range a {
		for j := range b {
			rows = append(rows, row(number(i), number(j)))
		}
	}
	return rows
}

// P12.3: just MaxRows, and one more.
func TestJoinAtMaxRows(t *testing.T) {
	most := api.MaxRows
	check(t, join, handed{rows: counted(most), other: counted(1)}, product(most, 1), api.OK)
	check(t, join, handed{rows: counted(1), other: counted(most)}, product(1, most), api.OK)
	check(t, join, handed{rows: counted(most / 2), other: counted(2)}, product(most/2, 2), api.OK)
	// 67 times 3 pairs are MaxRows and one more.
	in := handed{rows: counted(67), other: counted(3)}
	if all := product(67, 3); len(all) != most+1 {
		t.Fatalf("%d pairs", len(all))
	}
	refused(t, join, in, api.ErrSize)
	for n := range most + 1 {
		in.exprs = exprs(by(api.Differ, numbered(3), whole(n)))
		check(t, join, in, slices.Delete(product(67, 3), n, n+1), api.OK)
	}
	in.exprs = exprs(zeroAt(3, most))
	refused(t, join, in, api.ErrZero)
	in.exprs = exprs(by(api.Less, numbered(3), whole(most)), zeroAt(3, most))
	check(t, join, in, product(67, 3)[:most], api.OK)
	refused(t, join, handed{rows: counted(most), other: counted(most)}, api.ErrSize)
	refused(t, join, handed{rows: make([][]api.Value, most), other: make([][]api.Value, 2)}, api.ErrSize)
	check(t, join, handed{rows: make([][]api.Value, most), other: make([][]api.Value, 1)}, make([][]api.Value, most), api.OK)
}

// P12.3: of all pairs of two long lists those that are kept count, not those that are asked.
func TestJoinOfMany(t *testing.T) {
	most := api.MaxRows
	in := handed{rows: counted(most), other: counted(most), exprs: exprs(by(api.Equal, place(0), place(1)))}
	var want [][]api.Value
	for i := range most {
		want = append(want, row(number(i), number(i)))
	}
	check(t, join, in, want, api.OK)
	in.exprs = exprs(by(api.Equal, numbered(most), whole(most*most-1)))
	check(t, join, in, want[most-1:], api.OK)
	in.exprs = exprs(by(api.Or, by(api.Equal, place(0), place(1)), by(api.Equal, numbered(most), whole(most*most-2))))
	refused(t, join, in, api.ErrSize)
	in.exprs = exprs(by(api.Equal, place(0), place(1)), zeroAt(most, most*most-1))
	refused(t, join, in, api.ErrZero)
}

// P12.3: pairs are taken one by one, so that behind the one that is too many none is asked.
func TestJoinEndsAtOneTooMany(t *testing.T) {
	most := api.MaxRows
	refused(t, join, handed{rows: counted(68), other: counted(3), exprs: exprs(zeroAt(3, most+1))}, api.ErrSize)
	refused(t, join, handed{rows: counted(68), other: counted(3), exprs: exprs(zeroAt(3, most))}, api.ErrZero)
	refused(t, join, handed{rows: counted(68), other: counted(3), exprs: exprs(zeroAt(3, most-1))}, api.ErrZero)
}
