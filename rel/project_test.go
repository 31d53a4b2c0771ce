package rel

import (
	"testing"

	"commonhold/api"
	"commonhold/eval"
)

// P12.4
func TestProject(t *testing.T) {
	a, b := row(number(1), text("x"), api.Value{}), row(number(-2), text("y"), truth(1))
	rows := rowsOf(a, b, a)
	for _, x := range []struct {
		items []api.Expr
		want  [][]api.Value
	}{
		{nil, make([][]api.Value, 3)},
		{exprs(), make([][]api.Value, 3)},
		{exprs(place(1)), column(text("x"), text("y"), text("x"))},
		{exprs(place(2), place(0), place(2)), rowsOf(row(a[2], a[0], a[2]), row(b[2], b[0], b[2]), row(a[2], a[0], a[2]))},
		{exprs(whole(7), by(api.Neg, place(0))), rowsOf(row(number(7), number(-1)), row(number(7), number(2)), row(number(7), number(-1)))},
		{exprs(by(api.And, place(2), null()), by(api.IsNull, place(2))), rowsOf(row(api.Value{}, truth(1)), row(api.Value{}, truth(0)), row(api.Value{}, truth(1)))},
		// Of the second row the other part would be refused.
		{exprs(by(api.Or, by(api.Less, place(0), whole(0)), by(api.IsNull, by(api.Over, whole(1), by(api.Plus, place(0), whole(2)))))), column(truth(0), truth(1), truth(0))},
	} {
		check(t, project, handed{rows: rows, exprs: x.items}, x.want, api.OK)
	}
	for _, rows := range rightRows() {
		check(t, project, handed{rows: rows}, make([][]api.Value, len(rows)), api.OK)
		check(t, project, handed{rows: rows, exprs: exprs(yes())}, constantRows(len(rows), truth(1)), api.OK)
		var items []api.Expr
		for i := range 5 {
			if len(rows) > 0 && i < len(rows[0]) {
				items = append(items, place(i))
			}
		}
		var want [][]api.Value
		for _, r := range rows {
			want = append(want, r[:len(items)])
		}
		check(t, project, handed{rows: rows, exprs: items}, want, api.OK)
	}
}

func constantRows(n int, v api.Value) [][]api.Value {
	var rows [][]api.Value
	for range n {
		rows = append(rows, row(v))
	}
	return rows
}

// P12.4: row by row, item by item.
func TestProjectRefuses(t *testing.T) {
	over := by(api.Over, whole(1), place(0))
	neg := by(api.Neg, place(1))
	n, s, z := number(1), text("a"), number(0)
	for _, x := range []struct {
		rows  [][]api.Value
		items []api.Expr
		code  api.Errno
	}{
		{rowsOf(row(z, n), row(n, n)), exprs(over), api.ErrZero},
		{rowsOf(row(n, n), row(n, n), row(z, n)), exprs(over), api.ErrZero},
		{rowsOf(row(n, n), row(s, n), row(z, n)), exprs(over), api.ErrType},
		{rowsOf(row(n, n), row(z, n), row(s, n)), exprs(over), api.ErrZero},
		{rowsOf(row(z, s)), exprs(over, neg), api.ErrZero},
		{rowsOf(row(z, s)), exprs(neg, over), api.ErrType},
		{rowsOf(row(n, s), row(z, n)), exprs(over, neg), api.ErrType},
		{rowsOf(row(z, n), row(n, s)), exprs(over, neg), api.ErrZero},
		{rowsOf(row(z, n), row(n, s)), exprs(neg, over), api.ErrZero},
		{rowsOf(row(n, n), row(z, n)), exprs(yes(), null(), over), api.ErrZero},
		{rowsOf(row(n, n)), exprs(place(0), place(2)), api.ErrForm},
		{rowsOf(row(n, n)), exprs(place(-1)), api.ErrForm},
		{rowsOf(row(z, n)), exprs(over, place(2)), api.ErrZero},
		{rowsOf(row(z, n)), exprs(place(2), over), api.ErrForm},
		{rowsOf(row(n, n), row(z, n)), exprs(over, place(2)), api.ErrForm},
		{rowsOf(nil), exprs(place(0)), api.ErrForm},
		{rowsOf(row(n, n)), exprs(api.Expr{}), api.ErrForm},
		{rowsOf(row(n, n)), exprs(api.Expr{Op: api.Named, Name: "a"}), api.ErrForm},
		{rowsOf(row(n, n)), exprs(by(api.CountAll)), api.ErrForm},
		{rowsOf(row(n, n)), exprs(by(api.Sum, place(0))), api.ErrForm},
		{rowsOf(row(n, n)), exprs(by(api.Max+1, place(0))), api.ErrForm},
		// Eval is asked, not Holds: behind an unknown part the other one is asked, too.
		{rowsOf(row(n, n)), exprs(by(api.And, null(), by(api.IsNull, zero()))), api.ErrZero},
	} {
		refused(t, project, handed{rows: x.rows, exprs: x.items}, x.code)
	}
}

// P12.4: where there are no rows, nothing is asked.
func TestProjectOfNone(t *testing.T) {
	for _, e := range exprs(api.Expr{}, yes(), zero(), place(0), place(-1), api.Expr{Op: 99}, by(api.Count)) {
		check(t, project, handed{exprs: exprs(e)}, nil, api.OK)
		check(t, project, handed{rows: [][]api.Value{}, exprs: exprs(yes(), e)}, nil, api.OK)
	}
}

// P12.4: as Eval says.
func TestProjectAsEval(t *testing.T) {
	for _, a := range ascending() {
		for _, b := range ascending() {
			r := row(a, b)
			for op := api.Neg; op <= api.Or; op++ {
				e := by(op, place(0), place(1))
				if op < api.Plus {
					e = by(op, place(1))
				}
				v, code := eval.Eval(e, r)
				got, c := Project(rowsOf(r), exprs(e))
				want := column(v)
				if code != api.OK {
					want = nil
				}
				if c != code || !sameRows(got, want) {
					t.Errorf("%s of %s: %s, %d; want %s, %d", brief(e), brief(r), brief(got), c, brief(want), code)
				}
			}
		}
	}
}
