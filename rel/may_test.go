package rel

import (
	"math"
	"testing"

	"commonhold/api"
)

// forms: rows of one value, and none: of both what is of no form is refused.
func forms() [][][]api.Value { return [][][]api.Value{numbers(1, 2), counted(1), nil} }

// formless: an item that may not be asked, be it by itself or within others.
func formless(t *testing.T, e api.Expr) {
	t.Helper()
	for _, rows := range forms() {
		for _, item := range exprs(e, by(api.Not, e), by(api.Plus, whole(1), e), by(api.Plus, e, zero()), by(api.And, no(), e), by(api.Or, yes(), e), by(api.Sum, e), by(api.Max, by(api.Neg, e))) {
			refused(t, groupBy, handed{rows: rows, exprs: exprs(item)}, api.ErrForm)
			refused(t, groupBy, handed{rows: rows, exprs: exprs(countAll(), item)}, api.ErrForm)
		}
	}
}

// asked: an item that may be asked, whatever else is refused of it.
func asked(t *testing.T, rows [][]api.Value, e api.Expr) {
	t.Helper()
	if _, code := Group(rows, nil, exprs(e)); code == api.ErrForm {
		t.Errorf("%s of %s may not be asked", brief(e), brief(rows))
	}
}

// P12.5: none of the five stands within another one, however deep.
func TestNoneWithinAnother(t *testing.T) {
	for _, op := range gatherings() {
		inner := exprs(countAll())
		for _, other := range gatherings() {
			inner = append(inner, by(other, place(0)))
		}
		for _, e := range inner {
			formless(t, by(op, e))
			formless(t, by(op, by(api.Neg, e)))
			formless(t, by(op, by(api.Plus, place(0), e)))
			formless(t, by(op, by(api.Or, yes(), by(api.IsNull, e))))
			for _, rows := range forms() {
				asked(t, rows, e)
				asked(t, rows, by(api.Plus, by(op, place(0)), e))
				asked(t, rows, by(api.Plus, e, by(op, place(0))))
				asked(t, rows, by(api.IsNull, e))
			}
		}
	}
}

// P12.5: fields that an Op does not name are zero.
func TestFieldsOfItems(t *testing.T) {
	l := exprs(countAll(), null(), whole(1), place(0), by(api.Neg, place(0)), by(api.Plus, place(0), whole(1)), by(api.And, no(), yes()), by(api.IsNull, countAll()))
	for _, op := range gatherings() {
		l = append(l, by(op, place(0)))
	}
	for _, e := range l {
		asked(t, numbers(1), e)
		asked(t, nil, e)
		named, tabled, placed, valued, texted, kinded := e, e, e, e, e, e
		named.Name, tabled.Table, placed.Place = "a", "t", 1
		valued.Value.Int, texted.Value.Text, kinded.Value.Kind = 7, "a", api.Truth
		formless(t, named)
		formless(t, tabled)
		if e.Op != api.Place {
			formless(t, placed)
			placed.Place = -1
			formless(t, placed)
		}
		if e.Op != api.Const {
			formless(t, valued)
			formless(t, kinded)
		}
		if e.Op != api.Const || e.Value.Kind != api.Text {
			formless(t, texted)
		}
	}
}

// P12.5: each Op has its number of parts.
func TestPartsOfItems(t *testing.T) {
	count := map[int]int{api.Const: 0, api.Place: 0, api.CountAll: 0}
	for op := api.Neg; op <= api.Max; op++ {
		switch {
		case op == api.CountAll:
		case op >= api.Plus && op <= api.Or:
			count[op] = 2
		default:
			count[op] = 1
		}
	}
	for op, n := range count {
		for parts := range 5 {
			var subs []api.Expr
			for range parts {
				subs = append(subs, whole(1))
			}
			if e := by(op, subs...); parts != n {
				formless(t, e)
			} else {
				asked(t, numbers(1), e)
				asked(t, nil, e)
			}
		}
	}
}

// P12.5: Ops that are none, or that no row can be asked.
func TestStrangeItems(t *testing.T) {
	for _, op := range []int{0, api.Named, api.Max + 1, 99, -1, 1<<32 + api.CountAll, 1<<32 + api.Sum, math.MaxInt64, math.MinInt64} {
		for _, subs := range [][]api.Expr{nil, exprs(place(0)), exprs(place(0), place(0))} {
			formless(t, by(op, subs...))
		}
		formless(t, api.Expr{Op: op, Name: "a"})
	}
	for _, v := range wrongs() {
		formless(t, constant(v))
		formless(t, by(api.Count, constant(v)))
	}
	for _, v := range ascending() {
		check(t, groupBy, handed{rows: numbers(1), exprs: exprs(constant(v), by(api.Max, constant(v)))}, rowsOf(row(v, v)), api.OK)
		check(t, groupBy, handed{exprs: exprs(constant(v))}, column(v), api.OK)
	}
}

// P12.5: which places may be asked, of rows and of none.
func TestPlacesOfItems(t *testing.T) {
	within := func(e api.Expr) []api.Expr {
		return exprs(e, by(api.IsNull, e), by(api.Sum, e), by(api.Max, by(api.Neg, e)), by(api.And, no(), by(api.IsNull, e)), by(api.Or, yes(), by(api.IsNull, by(api.Min, e))))
	}
	rows := rowsOf(row(number(5), number(6)), row(number(7), number(8)))
	for _, n := range []int{2, 3, math.MaxInt64, 1 << 32} {
		for _, e := range within(place(n)) {
			refused(t, groupBy, handed{rows: rows, exprs: exprs(e)}, api.ErrForm)
			refused(t, groupBy, handed{rows: rows, groups: []int{0}, exprs: exprs(e)}, api.ErrForm)
			refused(t, groupBy, handed{rows: make([][]api.Value, 2), exprs: exprs(e)}, api.ErrForm)
			asked(t, nil, e)
		}
	}
	for _, n := range []int{-1, -2, math.MinInt64} {
		for _, e := range within(place(n)) {
			for _, l := range [][][]api.Value{rows, make([][]api.Value, 2), nil, {}} {
				refused(t, groupBy, handed{rows: l, exprs: exprs(e)}, api.ErrForm)
			}
		}
	}
	for _, n := range []int{0, 1, 99, math.MaxInt64 - 1, math.MaxInt64} {
		want := rowsOf(row(api.Value{}, truth(1), api.Value{}, api.Value{}, truth(0), truth(1)))
		check(t, groupBy, handed{exprs: within(place(n))}, want, api.OK)
	}
	for _, e := range within(place(0)) {
		refused(t, groupBy, handed{rows: make([][]api.Value, 1), exprs: exprs(e)}, api.ErrForm)
	}
	check(t, groupBy, handed{rows: rows, exprs: within(place(1))}, rowsOf(row(number(6), truth(0), number(14), number(-6), truth(0), truth(1))), api.OK)
}

// negs: an expression within so many Negs.
func negs(n int, e api.Expr) api.Expr {
	for range n {
		e = by(api.Neg, e)
	}
	return e
}

// P12.5: at most MaxDepth expressions lie within each other, those that ask all rows counted.
func TestDepthOfItems(t *testing.T) {
	most := api.MaxDepth
	// Each with how many expressions lie within each other; of one row with a 1 it comes to 1 or -1, by how many Negs there are.
	deep := map[int]func(n int) api.Expr{
		1: func(n int) api.Expr { return negs(n, place(0)) },
		2: func(n int) api.Expr { return negs(n, by(api.Sum, place(0))) },
		3: func(n int) api.Expr { return by(api.Plus, whole(0), negs(n, by(api.Max, place(0)))) },
		4: func(n int) api.Expr {
			return by(api.Plus, by(api.Sum, negs(n, by(api.Times, place(0), whole(1)))), whole(0))
		},
	}
	for size, of := range deep {
		for n := range 3 * most {
			e := of(n)
			want := number(1 - n%2*2)
			if size+n > most {
				refused(t, groupBy, handed{rows: numbers(1), exprs: exprs(e)}, api.ErrForm)
				refused(t, groupBy, handed{exprs: exprs(e)}, api.ErrForm)
				continue
			}
			check(t, groupBy, handed{rows: numbers(1), exprs: exprs(e)}, column(want), api.OK)
			check(t, groupBy, handed{exprs: exprs(e)}, column(api.Value{}), api.OK)
		}
	}
	for _, op := range gatherings() {
		for n := range most - 1 {
			refused(t, groupBy, handed{rows: numbers(1), exprs: exprs(negs(n, by(op, negs(most-1-n, place(0)))))}, api.ErrForm)
			asked(t, numbers(1), negs(n, by(op, negs(most-2-n, place(0)))))
		}
	}
	check(t, groupBy, handed{rows: numbers(1), exprs: exprs(negs(most-1, countAll()))}, numbers(-1), api.OK)
	refused(t, groupBy, handed{rows: numbers(1), exprs: exprs(negs(most, countAll()))}, api.ErrForm)
	refused(t, groupBy, handed{exprs: exprs(by(api.And, no(), negs(most-1, countAll())))}, api.ErrForm)
	check(t, groupBy, handed{exprs: exprs(by(api.And, no(), negs(most-2, countAll())))}, column(truth(0)), api.OK)
}

// P12.5: And and Or ask their other part only where the first one does not tell it.
func TestItemsAskNoMore(t *testing.T) {
	rows := column(text("a"), number(0))
	summed := by(api.IsNull, by(api.Sum, place(0)))
	divided := by(api.IsNull, by(api.Max, by(api.Over, whole(1), whole(0))))
	isFew, isMany := by(api.Less, countAll(), whole(9)), by(api.More, countAll(), whole(9))
	for _, x := range []struct {
		e    api.Expr
		v    api.Value
		code api.Errno
	}{
		{by(api.And, isMany, summed), truth(0), api.OK},
		{by(api.And, isMany, divided), truth(0), api.OK},
		{by(api.Or, isFew, summed), truth(1), api.OK},
		{by(api.Or, isFew, divided), truth(1), api.OK},
		{by(api.And, isMany, countAll()), truth(0), api.OK},
		{by(api.Or, isFew, countAll()), truth(1), api.OK},
		{by(api.Or, by(api.And, isMany, summed), isFew), truth(1), api.OK},
		{by(api.Not, by(api.Or, by(api.Or, isFew, summed), divided)), truth(0), api.OK},
		{by(api.And, no(), zero()), truth(0), api.OK},
		{by(api.Or, yes(), zero()), truth(1), api.OK},
		{by(api.And, isFew, summed), api.Value{}, api.ErrType},
		{by(api.And, isFew, divided), api.Value{}, api.ErrZero},
		{by(api.Or, isMany, summed), api.Value{}, api.ErrType},
		{by(api.Or, isMany, divided), api.Value{}, api.ErrZero},
		{by(api.And, null(), divided), api.Value{}, api.ErrZero},
		{by(api.Or, null(), divided), api.Value{}, api.ErrZero},
		{by(api.And, by(api.Max, null()), divided), api.Value{}, api.ErrZero},
		{by(api.And, divided, isMany), api.Value{}, api.ErrZero},
		{by(api.Or, divided, isFew), api.Value{}, api.ErrZero},
		{by(api.And, countAll(), divided), api.Value{}, api.ErrType},
		{by(api.Or, by(api.Max, place(0)), divided), api.Value{}, api.ErrType},
		{by(api.And, isFew, countAll()), api.Value{}, api.ErrType},
		{by(api.Or, null(), countAll()), api.Value{}, api.ErrType},
		{by(api.And, null(), isMany), truth(0), api.OK},
		{by(api.And, null(), isFew), api.Value{}, api.OK},
		{by(api.Or, null(), isFew), truth(1), api.OK},
		{by(api.Or, null(), isMany), api.Value{}, api.OK},
		{by(api.And, isFew, isFew), truth(1), api.OK},
		{by(api.Or, isMany, isMany), truth(0), api.OK},
	} {
		want := column(x.v)
		if x.code != api.OK {
			want = nil
		}
		check(t, groupBy, handed{rows: rows, exprs: exprs(x.e)}, want, x.code)
	}
}
