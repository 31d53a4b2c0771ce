package rel

import (
	"math"
	"math/rand"
	"slices"
	"testing"

	"commonhold/api"
	"commonhold/eval"
)

// P12.2
func TestFilter(t *testing.T) {
	rows := column(truth(1), api.Value{}, truth(0), truth(1), truth(0), api.Value{})
	for _, x := range []struct {
		e    api.Expr
		want [][]api.Value
	}{
		{api.Expr{}, rows},
		{yes(), rows},
		{no(), nil},
		{null(), nil},
		{place(0), column(truth(1), truth(1))},
		{by(api.Not, place(0)), column(truth(0), truth(0))},
		{by(api.IsNull, place(0)), column(api.Value{}, api.Value{})},
		{by(api.Or, place(0), by(api.IsNull, place(0))), column(truth(1), api.Value{}, truth(1), api.Value{})},
	} {
		check(t, filter, handed{rows: rows, exprs: exprs(x.e)}, x.want, api.OK)
	}
	wide := rowsOf(row(number(3), text("c")), row(number(1), text("a")), row(number(2), text("b")), row(number(1), text("c")))
	check(t, filter, handed{rows: wide, exprs: exprs(by(api.Least, place(0), whole(2)))}, rowsOf(wide[0], wide[2]), api.OK)
	check(t, filter, handed{rows: wide, exprs: exprs(by(api.Equal, place(1), constant(text("c"))))}, rowsOf(wide[0], wide[3]), api.OK)
	for _, rows := range rightRows() {
		check(t, filter, handed{rows: rows, exprs: exprs(yes())}, rows, api.OK)
		check(t, filter, handed{rows: rows, exprs: exprs(no())}, nil, api.OK)
	}
}

// inverse: refused of rows whose first value is 0, or none of the numbers and Null; of all others it comes to a truth value, or to Null.
func inverse() api.Expr {
	return by(api.More, by(api.Over, whole(1), place(0)), whole(0))
}

// P12.2: row by row, what is refused.
func TestFilterRefuses(t *testing.T) {
	for _, x := range []struct {
		rows [][]api.Value
		e    api.Expr
		code api.Errno
	}{
		{numbers(0, 1, 2), inverse(), api.ErrZero},
		{numbers(1, 2, 0), inverse(), api.ErrZero},
		{numbers(-1, 0, 1), inverse(), api.ErrZero},
		{column(text("a"), number(1)), inverse(), api.ErrType},
		{column(number(1), truth(1)), inverse(), api.ErrType},
		{column(number(1), text("a"), number(0)), inverse(), api.ErrType},
		{column(number(1), number(0), text("a")), inverse(), api.ErrZero},
		{column(truth(1), number(1)), place(0), api.ErrType},
		{column(text(""), truth(1)), place(0), api.ErrType},
		{counted(3), whole(1), api.ErrType},
		{counted(3), constant(text("yes")), api.ErrType},
		{counted(3), by(api.And, yes(), whole(1)), api.ErrType},
		{numbers(1, math.MinInt64), by(api.Less, by(api.Neg, place(0)), whole(0)), api.ErrOver},
		{counted(1), place(1), api.ErrForm},
		{counted(1), place(-1), api.ErrForm},
		{rowsOf(nil), place(0), api.ErrForm},
		{counted(1), api.Expr{Op: 99}, api.ErrForm},
		{counted(1), api.Expr{Name: "a"}, api.ErrForm},
		{counted(1), api.Expr{Op: api.Named, Name: "a"}, api.ErrForm},
		{counted(1), by(api.CountAll), api.ErrForm},
		{counted(1), by(api.And, no(), by(api.Max, place(0))), api.ErrForm},
		{numbers(0), by(api.And, inverse(), place(1)), api.ErrForm},
	} {
		refused(t, filter, handed{rows: x.rows, exprs: exprs(x.e)}, x.code)
	}
}

// P12.2: Holds is asked, not Eval: the first conjunct that is not Yes ends it.
func TestFilterAsksConjuncts(t *testing.T) {
	rows := column(truth(0), api.Value{}, truth(0))
	check(t, filter, handed{rows: rows, exprs: exprs(by(api.And, place(0), by(api.Equal, zero(), whole(1))))}, nil, api.OK)
	refused(t, filter, handed{rows: append(rows, row(truth(1))), exprs: exprs(by(api.And, place(0), by(api.Equal, zero(), whole(1))))}, api.ErrZero)
}

// P12.2: where there are no rows, nothing is asked.
func TestFilterOfNone(t *testing.T) {
	for _, e := range exprs(api.Expr{}, yes(), zero(), place(0), place(-1), api.Expr{Op: 99}, api.Expr{Name: "a"}, whole(1), by(api.Count, by(api.Count))) {
		check(t, filter, handed{exprs: exprs(e)}, nil, api.OK)
		check(t, filter, handed{rows: [][]api.Value{}, exprs: exprs(e)}, nil, api.OK)
	}
}

// selfish: expressions that have themselves as parts.
func selfish() []api.Expr {
	one, two, many := make([]api.Expr, 1), make([]api.Expr, 2), make([]api.Expr, 1000)
	one[0] = by(api.Sum, one...)
	two[0], two[1] = by(api.And, two...), by(api.Plus, two...)
	for i := range many {
		many[i] = by(api.Or, many...)
	}
	return exprs(one[0], two[0], two[1], many[0], by(api.Count, many...), by(api.Not, two[0]), by(api.Max, two[1]))
}

// Each call ends.
func TestSelfishEnd(t *testing.T) {
	for i, e := range selfish() {
		for _, rows := range [][][]api.Value{counted(1), counted(api.MaxRows)} {
			for name, code := range map[string]api.Errno{
				"Filter":  second(Filter(rows, e)),
				"Join":    second(Join(rows, rows, exprs(e))),
				"Project": second(Project(rows, exprs(e))),
				"Group":   second(Group(rows, nil, exprs(e))),
				"groups":  second(Group(rows, []int{0}, exprs(e))),
				"none":    second(Group(nil, nil, exprs(e))),
			} {
				if code != api.ErrForm {
					t.Errorf("%s of expression %d: %d", name, i, code)
				}
			}
		}
	}
}

func second(_ [][]api.Value, code api.Errno) api.Errno { return code }

// conditions: some that come to a truth value or Null of two numbers or Nulls, so that none is refused.
func conditions() []api.Expr {
	return exprs(
		yes(), null(), by(api.IsNull, place(0)), by(api.IsSome, place(1)), by(api.Less, place(0), place(1)), by(api.Differ, place(0), whole(1)),
		by(api.Or, by(api.Equal, place(1), whole(2)), by(api.IsNull, place(0))), by(api.Not, by(api.Most, place(1), whole(0))),
	)
}

// someRows: so many rows of numbers and Nulls.
func someRows(random *rand.Rand, n, width int) [][]api.Value {
	var rows [][]api.Value
	for range n {
		r := make([]api.Value, width)
		for i := range r {
			if random.Intn(4) > 0 {
				r[i] = number(random.Intn(4) - 1)
			}
		}
		rows = append(rows, r)
	}
	return rows
}

// What comes of it: filters may go in any order, and ahead of a join.
func TestFiltersMoveFreely(t *testing.T) {
	random := rand.New(rand.NewSource(12))
	must := func(rows [][]api.Value, code api.Errno) [][]api.Value {
		if code != api.OK {
			t.Fatalf("refused: %d", code)
		}
		return rows
	}
	for range 20 {
		a, b := someRows(random, random.Intn(12), 2), someRows(random, random.Intn(12), 2)
		for _, e := range conditions() {
			for _, f := range conditions() {
				one, other := must(Filter(must(Filter(a, e)), f)), must(Filter(must(Filter(a, f)), e))
				if both := must(Filter(a, by(api.And, e, f))); !sameRows(one, other) || !sameRows(one, both) {
					t.Errorf("%s by %s and %s: %s, %s, %s", brief(a), brief(e), brief(f), brief(one), brief(other), brief(both))
				}
				ahead, behind := must(Join(must(Filter(a, e)), b, exprs(f))), must(Filter(must(Join(a, b, exprs(f))), e))
				if inside := must(Join(a, b, exprs(e, f))); !sameRows(ahead, behind) || !sameRows(ahead, inside) {
					t.Errorf("%s and %s by %s and %s: %s, %s, %s", brief(a), brief(b), brief(e), brief(f), brief(ahead), brief(behind), brief(inside))
				}
			}
			var want [][]api.Value
			for _, r := range a {
				if v, _ := eval.Eval(e, r); v == truth(1) {
					want = append(want, slices.Clone(r))
				}
			}
			check(t, filter, handed{rows: a, exprs: exprs(e)}, want, api.OK)
		}
	}
}
