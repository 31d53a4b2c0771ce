package eval

import (
	"math"
	"slices"
	"strings"
	"testing"

	"commonhold/api"
)

// checkMay asks Eval and Holds, too: ErrForm is what may not be asked, ahead of all else.
func checkMay(t *testing.T, e api.Expr, width int, want bool) {
	t.Helper()
	if got := May(e, width); got != want {
		t.Errorf("May(%s, %d): %t", brief(e), width, got)
	}
	if width < 0 {
		return
	}
	row := make([]api.Value, width)
	if v, code := Eval(e, row); (code == api.ErrForm) == want || code != api.OK && v != (api.Value{}) {
		t.Errorf("Eval(%s, %v): %v, %d", brief(e), row, v, code)
	}
	if holds, code := Holds(e, row); (code == api.ErrForm) == want || code != api.OK && holds {
		t.Errorf("Holds(%s, %v): %t, %d", brief(e), row, holds, code)
	}
	if width == 0 {
		return
	}
	// What is refused of the row's values comes behind ErrForm, and ahead of all that is refused of parts.
	for _, w := range wrongs() {
		row[width-1] = w.v
		code := api.ErrForm
		if want {
			code = w.code
		}
		checkEval(t, e, row, api.Value{}, code)
		checkHolds(t, e, row, false, code)
	}
}

// P10.1
func TestMayByOpAndParts(t *testing.T) {
	for op := -3; op <= api.Max+3; op++ {
		for n := range 4 {
			parts := 0
			switch {
			case slices.Contains(oneParted(), op):
				parts = 1
			case slices.Contains(twoParted(), op):
				parts = 2
			case op != api.Const && op != api.Place:
				parts = -1
			}
			for _, sub := range exprs(whole(1), null(), place(0)) {
				// (Of Op 0 alone Holds says otherwise.)
				if op != 0 || n != 0 {
					checkMay(t, by(op, slices.Repeat(exprs(sub), n)...), 1, n == parts)
				}
			}
		}
	}
	if len(oneParted())+len(twoParted()) != 17 {
		t.Error("these are not all Ops that are made of parts")
	}
}

// P10.1: Op 0, aggregates, names, and numbers that are no Op.
func TestStrangersMayNot(t *testing.T) {
	for _, op := range strangers() {
		for n := range 4 {
			e := by(op, slices.Repeat(exprs(whole(1)), n)...)
			for _, x := range append(withFields(e), e) {
				// (Of Op 0 alone Holds says otherwise.)
				if !sameExpr(x, api.Expr{}) {
					checkMay(t, x, 2, false)
				}
				for _, wrap := range wraps(whole(1)) {
					checkMay(t, wrap(x), 2, false)
				}
			}
		}
	}
	for _, width := range []int{0, 1, -1, math.MaxInt64} {
		if May(api.Expr{}, width) || May(api.Expr{Op: api.Named, Name: "a"}, width) || May(by(api.CountAll), width) || May(by(api.Max, place(0)), width) {
			t.Errorf("May at a width of %d", width)
		}
	}
}

// withFields: an expression with each other field set, but Value and Place where they belong to it.
func withFields(e api.Expr) []api.Expr {
	var l []api.Expr
	add := func(change func(*api.Expr)) {
		x := e
		change(&x)
		l = append(l, x)
	}
	if e.Op != api.Const {
		for _, v := range []api.Value{integer(0), integer(1), truth(0), text("x"), {Int: 1}, {Text: "x"}, {Kind: -1}} {
			add(func(e *api.Expr) { e.Value = v })
		}
	}
	if e.Op != api.Place {
		for _, n := range []int{1, -1, math.MaxInt64, math.MinInt64} {
			add(func(e *api.Expr) { e.Place = n })
		}
	}
	for _, s := range []string{"a", "select", " ", "\x00"} {
		add(func(e *api.Expr) { e.Table = s })
		add(func(e *api.Expr) { e.Name = s })
	}
	return l
}

// P10.1: other fields are zero.
func TestOtherFields(t *testing.T) {
	samples := exprs(whole(1), null(), constant(text("a")), place(0), place(1))
	for _, wrap := range wraps(yes()) {
		samples = append(samples, wrap(no()))
	}
	for _, e := range samples {
		checkMay(t, e, 2, true)
		for _, x := range withFields(e) {
			checkMay(t, x, 2, false)
			checkMay(t, by(api.IsNull, x), 2, false)
			checkMay(t, by(api.And, no(), x), 2, false)
		}
		// A list without elements may be handed in either way.
		if len(e.Subs) == 0 {
			e.Subs = make([]api.Expr, 0, 3)
			checkMay(t, e, 2, true)
			for n := 1; n < 4; n++ {
				e.Subs = slices.Repeat(exprs(yes()), n)
				checkMay(t, e, 2, false)
			}
		}
	}
}

// P10.1
func TestMayConst(t *testing.T) {
	for _, width := range []int{0, 1, 5, -1, math.MinInt64, math.MaxInt64} {
		for _, v := range values() {
			if !May(constant(v), width) || !May(by(api.Plus, whole(1), by(api.Not, constant(v))), width) {
				t.Errorf("May of %v, at a width of %d: false", v, width)
			}
		}
		for _, w := range wrongs() {
			if May(constant(w.v), width) {
				t.Errorf("May of %v, at a width of %d", w.v, width)
			}
		}
	}
	for _, w := range wrongs() {
		checkMay(t, constant(w.v), 1, false)
		for _, wrap := range wraps(no()) {
			checkMay(t, wrap(constant(w.v)), 1, false)
		}
	}
}

// P10.1
func TestMayPlace(t *testing.T) {
	ends := []int{math.MinInt64, math.MinInt64 + 1, -1 << 32, -7, -2, -1, 0, 1, 2, 3, 6, 7, 1 << 32, math.MaxInt64 - 1, math.MaxInt64}
	for _, width := range ends {
		for _, at := range ends {
			want := at >= 0 && at < width
			if got := May(place(at), width); got != want {
				t.Errorf("May of the place %d, at a width of %d: %t", at, width, got)
			}
			for _, wrap := range wraps(null()) {
				if got := May(wrap(place(at)), width); got != want {
					t.Errorf("May of %s, at a width of %d: %t", brief(wrap(place(at))), width, got)
				}
			}
		}
	}
	for width := range 5 {
		for at := -2; at < 7; at++ {
			checkMay(t, place(at), width, at >= 0 && at < width)
		}
	}
}

// P10.1: no more than MaxDepth expressions lie within each other.
func TestMayDepth(t *testing.T) {
	if api.MaxDepth != 12 {
		t.Fatal("the limit is another one than this test takes it for")
	}
	for _, wrap := range wraps(yes()) {
		for n := 1; n <= 15; n++ {
			for _, inner := range exprs(whole(1), place(0), null()) {
				checkMay(t, nested(n, wrap, inner), 1, n <= 12)
			}
		}
		checkMay(t, nested(1000, wrap, yes()), 1, false)
	}
	// All kinds of wraps, one within the other.
	for from := range wraps(yes()) {
		e := yes()
		for n := 1; n <= 14; n++ {
			checkMay(t, e, 0, n <= 12)
			l := wraps(no())
			e = l[(from+n)%len(l)](e)
		}
	}
	full := yes()
	for n := 2; n <= 14; n++ {
		full = by(api.And, full, full)
		checkMay(t, full, 1, n <= 12)
	}
	for _, wrap := range wraps(yes())[3:7] {
		checkMay(t, nested(1<<16, wrap, yes()), 1, false)
	}
}

// depthOf: how many expressions lie within each other.
func depthOf(e api.Expr) int {
	n := 0
	for _, sub := range e.Subs {
		n = max(n, depthOf(sub))
	}
	return n + 1
}

// P10.1: a part that may not be asked, in each place there is.
func TestMayParts(t *testing.T) {
	for _, bad := range exprs(place(3), place(-1), constant(truth(2)), api.Expr{}, by(api.CountAll), by(api.Neg), by(api.And, yes()), api.Expr{Op: api.Named, Name: "a"}) {
		for _, wrap := range wraps(place(2)) {
			for n := 2; n <= 12; n++ {
				checkMay(t, nested(n, wrap, bad), 3, false)
				checkMay(t, nested(n, wrap, place(2)), 3, true)
			}
		}
		checkMay(t, by(api.Plus, bad, bad), 3, false)
		checkMay(t, by(api.Or, by(api.Not, yes()), by(api.And, by(api.Not, bad), yes())), 3, false)
	}
}

// What holds everywhere: each call ends, whatever comes in.
func TestMayEnds(t *testing.T) {
	for _, e := range selfish() {
		checkMay(t, e, 1, false)
	}
	long := make([]api.Expr, 1<<18)
	for i := range long {
		long[i] = yes()
	}
	for op := -1; op <= api.Max+1; op++ {
		checkMay(t, by(op, long...), 1, false)
	}
	name := strings.Repeat("a", 1<<20)
	checkMay(t, api.Expr{Op: api.Const, Name: name}, 1, false)
	checkMay(t, constant(text(name)), 1, false)
}

// What holds everywhere: what is handed in is not changed, the spare room of lists neither.
func TestMayChangesNothing(t *testing.T) {
	for _, wrap := range wraps(by(api.IsNull, place(1))) {
		for _, e := range exprs(nested(4, wrap, place(1)), nested(4, wrap, place(2)), nested(13, wrap, yes())) {
			e = roomyExpr(e)
			kept := toldOf(e)
			if May(e, 2); toldOf(e) != kept {
				t.Fatalf("May changed %s into %s", kept, brief(e))
			}
		}
	}
}
