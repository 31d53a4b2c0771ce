package eval

import (
	"math"
	"slices"
	"testing"

	"commonhold/api"
)

func checkHolds(t *testing.T, e api.Expr, row []api.Value, want bool, wantCode api.Errno) {
	t.Helper()
	if got, code := Holds(e, row); got != want || code != wantCode {
		t.Errorf("Holds(%s, %s): %t, %d; want %t, %d", brief(e), brief(row), got, code, want, wantCode)
	}
}

// P10.4: Op 0 holds, where all else of it is zero, too.
func TestHoldsNone(t *testing.T) {
	for _, row := range [][]api.Value{nil, {}, {{}}, {truth(0), integer(1), text("a")}} {
		checkHolds(t, api.Expr{}, row, true, api.OK)
		checkHolds(t, api.Expr{Subs: exprs()}, row, true, api.OK)
		checkHolds(t, api.Expr{Subs: make([]api.Expr, 0, 5)}, row, true, api.OK)
		for _, e := range withFields(api.Expr{}) {
			checkHolds(t, e, row, false, api.ErrForm)
		}
		for n := 1; n < 4; n++ {
			checkHolds(t, api.Expr{Subs: slices.Repeat(exprs(yes()), n)}, row, false, api.ErrForm)
			checkHolds(t, api.Expr{Subs: make([]api.Expr, n)}, row, false, api.ErrForm)
		}
		// Within another one it is not asked for, and so is nothing that may be asked.
		for _, e := range exprs(by(api.And, api.Expr{}, yes()), by(api.And, yes(), api.Expr{}), by(api.And, api.Expr{}, api.Expr{}), by(api.And, no(), by(api.And, yes(), api.Expr{})), by(api.Not, api.Expr{})) {
			checkHolds(t, e, row, false, api.ErrForm)
		}
	}
}

// P10.4: the row's values are looked at, though there is no conjunct.
func TestHoldsNoneOfARowThatMayNotBe(t *testing.T) {
	for _, w := range wrongs() {
		checkHolds(t, api.Expr{}, []api.Value{w.v}, false, w.code)
		checkHolds(t, api.Expr{}, []api.Value{{}, w.v, {Kind: 5}}, false, w.code)
		checkHolds(t, api.Expr{Name: "a"}, []api.Value{w.v}, false, api.ErrForm)
	}
}

// conjunct: an expression, and what comes of it, if it is asked as a conjunct.
type conjunct struct {
	e    api.Expr
	goes bool // it is Yes, so that the next one is asked
	code api.Errno
}

func someConjuncts() []conjunct {
	return []conjunct{
		{yes(), true, api.OK},
		{no(), false, api.OK},
		{null(), false, api.OK},
		{whole(1), false, api.ErrType},
		{constant(text("a")), false, api.ErrType},
		{by(api.Over, whole(1), whole(0)), false, api.ErrZero},
		{by(api.Neg, whole(math.MinInt64)), false, api.ErrOver},
	}
}

// moreConjuncts: of each kind one that is made of parts, or asks the row; the row is of Yes, No, Null, 1 and a.
func moreConjuncts() []conjunct {
	return []conjunct{
		{place(0), true, api.OK}, {by(api.Or, no(), by(api.And, yes(), place(0))), true, api.OK}, {by(api.Less, whole(0), place(3)), true, api.OK},
		{place(1), false, api.OK}, {by(api.Not, yes()), false, api.OK}, {by(api.Or, by(api.And, no(), whole(1)), no()), false, api.OK},
		{place(2), false, api.OK}, {by(api.Equal, place(2), whole(1)), false, api.OK}, {by(api.Plus, place(2), whole(1)), false, api.OK},
		{place(3), false, api.ErrType}, {by(api.Neg, place(3)), false, api.ErrType},
		{place(4), false, api.ErrType},
		{by(api.Rest, place(3), whole(0)), false, api.ErrZero}, {by(api.Plus, place(3), whole(math.MaxInt64)), false, api.ErrOver}, {by(api.Equal, place(3), place(4)), false, api.ErrType},
	}
}

func holdsRow() []api.Value {
	return []api.Value{truth(1), truth(0), {}, integer(1), text("a")}
}

// wantHolds: the first conjunct that is not Yes ends it.
func wantHolds(l []conjunct) (bool, api.Errno) {
	for _, c := range l {
		if !c.goes {
			return false, c.code
		}
	}
	return true, api.OK
}

// checkConjuncts asks them in all trees of And's.
func checkConjuncts(t *testing.T, l ...conjunct) {
	t.Helper()
	var leaves []api.Expr
	for _, c := range l {
		leaves = append(leaves, c.e)
	}
	want, code := wantHolds(l)
	for _, e := range ands(leaves) {
		checkHolds(t, e, holdsRow(), want, code)
	}
}

// P10.4: each kind of conjunct as the first one, between others, and as the last one.
func TestHoldsConjuncts(t *testing.T) {
	some := someConjuncts()
	for _, a := range append(some, moreConjuncts()...) {
		checkConjuncts(t, a)
		for _, b := range append(some, moreConjuncts()...) {
			checkConjuncts(t, a, b)
		}
	}
	for _, a := range some {
		for _, b := range some {
			for _, c := range some {
				checkConjuncts(t, a, b, c)
				for _, d := range some {
					checkConjuncts(t, a, b, c, d)
				}
			}
		}
	}
}

// P10.4: each kind of conjunct in each place among many that are Yes.
func TestHoldsAmongMany(t *testing.T) {
	for _, c := range append(someConjuncts(), moreConjuncts()...) {
		for n := 2; n <= 12; n++ {
			for at := range n {
				l := slices.Repeat([]conjunct{{yes(), true, api.OK}}, n)
				l[at] = c
				left, right := l[0].e, l[n-1].e
				for i := 1; i < n; i++ {
					left, right = by(api.And, left, l[i].e), by(api.And, l[n-1-i].e, right)
				}
				for _, e := range exprs(left, right) {
					want, code := wantHolds(l)
					if depthOf(e) > api.MaxDepth {
						want, code = false, api.ErrForm
					}
					checkHolds(t, e, holdsRow(), want, code)
				}
			}
		}
	}
}

// P10.4: ErrForm is looked at ahead of all conjuncts.
func TestHoldsFormAheadOfAll(t *testing.T) {
	for _, bad := range exprs(place(5), place(-1), constant(truth(2)), by(api.CountAll), by(api.And, yes()), by(api.And, yes(), no(), yes()), api.Expr{Op: api.Named, Name: "a"}) {
		checkHolds(t, bad, holdsRow(), false, api.ErrForm)
		for _, c := range append(someConjuncts(), moreConjuncts()...) {
			checkHolds(t, by(api.And, c.e, bad), holdsRow(), false, api.ErrForm)
			checkHolds(t, by(api.And, bad, c.e), holdsRow(), false, api.ErrForm)
			checkHolds(t, by(api.And, by(api.And, no(), c.e), by(api.Not, bad)), holdsRow(), false, api.ErrForm)
		}
	}
}

// P10.4: the row's values are looked at ahead of all conjuncts, too, but behind ErrForm.
func TestHoldsRowRefused(t *testing.T) {
	for at := range holdsRow() {
		for _, w := range wrongs() {
			row := holdsRow()
			row[at] = w.v
			for _, c := range append(someConjuncts(), moreConjuncts()...) {
				checkHolds(t, c.e, row, false, w.code)
				checkHolds(t, by(api.And, c.e, yes()), row, false, w.code)
			}
			checkHolds(t, by(api.And, no(), place(at)), row, false, w.code)
			checkHolds(t, by(api.And, no(), yes()), row, false, w.code)
			checkHolds(t, by(api.And, no(), place(5)), row, false, api.ErrForm)
			if at < 4 {
				row[4] = api.Value{Kind: 77}
				checkHolds(t, yes(), row, false, w.code)
			}
		}
	}
}

// P10.4, what comes of it: it holds just if it comes to Yes, where it comes to a truth value at all.
func TestHoldsJustIfYes(t *testing.T) {
	row := []api.Value{truth(0), {}, integer(1)}
	leaves := exprs(place(0), place(1), place(2), yes(), constant(text("a")), by(api.Over, whole(1), whole(0)))
	seen := [2]int{}
	for _, e := range all(3, leaves, []int{api.Not}, []int{api.And, api.Or}) {
		v, code := Eval(e, row)
		if code != api.OK || v.Kind == api.Int || v.Kind == api.Text {
			continue
		}
		so := v == truth(1)
		checkHolds(t, e, row, so, api.OK)
		if so {
			seen[1]++
		} else {
			seen[0]++
		}
	}
	if seen[0] < 100 || seen[1] < 100 {
		t.Errorf("asked of %d that are not Yes, and of %d that are", seen[0], seen[1])
	}
}

// P10.4: what Eval refuses of a conjunct is not what it refuses of the whole.
func TestHoldsEndsWhereEvalDoesNot(t *testing.T) {
	for _, r := range refusals() {
		if r.e.Op == api.And {
			continue // It is split itself.
		}
		e := by(api.And, null(), r.e)
		checkEval(t, e, nil, api.Value{}, r.code)
		checkHolds(t, e, nil, false, api.OK)
		checkHolds(t, by(api.And, by(api.And, yes(), null()), r.e), nil, false, api.OK)
		checkHolds(t, by(api.And, yes(), r.e), nil, false, r.code)
		// Of an Or nothing is split.
		checkHolds(t, by(api.Or, by(api.And, null(), r.e), yes()), nil, false, r.code)
	}
	for _, v := range []api.Value{integer(0), integer(1), text(""), text("a")} {
		e := by(api.And, null(), constant(v))
		checkEval(t, e, nil, api.Value{}, api.ErrType)
		checkHolds(t, e, nil, false, api.OK)
	}
}

// What holds everywhere: each call ends, whatever comes in.
func TestHoldsEnds(t *testing.T) {
	for _, e := range selfish() {
		checkHolds(t, e, []api.Value{truth(1)}, false, api.ErrForm)
	}
	full := place(1)
	for range 11 {
		checkHolds(t, full, []api.Value{{}, truth(1)}, true, api.OK)
		full = by(api.And, full, full)
	}
	checkHolds(t, full, []api.Value{{}, truth(1)}, true, api.OK)
	checkHolds(t, by(api.And, full, full), []api.Value{{}, truth(1)}, false, api.ErrForm)
	checkHolds(t, nested(1<<16, func(e api.Expr) api.Expr { return by(api.And, e, yes()) }, yes()), nil, false, api.ErrForm)
	row := slices.Repeat([]api.Value{truth(1)}, 1<<20)
	checkHolds(t, place(1<<20-1), row, true, api.OK)
}

// What holds everywhere: what is handed in is not changed, the spare room of lists neither.
func TestHoldsChangesNothing(t *testing.T) {
	row := roomy(holdsRow(), truth(1))
	keptRow := toldOf(row)
	for _, a := range append(someConjuncts(), moreConjuncts()...) {
		for _, b := range append(someConjuncts(), moreConjuncts()...) {
			for _, e := range ands(exprs(a.e, yes(), b.e)) {
				e = roomyExpr(e)
				kept := toldOf(e)
				Holds(e, row)
				if toldOf(e) != kept || toldOf(row) != keptRow {
					t.Fatalf("Holds changed %s", brief(e))
				}
			}
		}
	}
}
