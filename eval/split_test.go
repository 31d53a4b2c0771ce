package eval

import (
	"math"
	"slices"
	"testing"

	"commonhold/api"
)

// checkSplit holds Split to its conjuncts, to it that nothing is changed, and that nothing is shared.
func checkSplit(t *testing.T, e api.Expr, want ...api.Expr) {
	t.Helper()
	got, again := Split(e), Split(e)
	if !sameAll(got, want) || !sameAll(again, want) {
		t.Errorf("Split(%s): %d, %s; want %d, %s", brief(e), len(got), brief(got), len(want), brief(want))
	}
	if sharing(got, again) {
		t.Errorf("what Split(%s) answers shares memory", brief(e))
	}
	if sharingWith(got, exprs(e)) {
		t.Errorf("what Split(%s) answers shares memory with it", brief(e))
	}
}

// plain: expressions that are the only conjunct of themselves, whatever they are.
func plain() []api.Expr {
	l := exprs(yes(), no(), null(), whole(3), constant(text("a")), constant(truth(2)), place(0), place(-1), api.Expr{Op: api.Named, Table: "t", Name: "a"},
		by(api.CountAll), by(api.Not), api.Expr{Op: -1}, api.Expr{Op: math.MaxInt64, Subs: exprs(yes())}, api.Expr{Op: 1<<32 + api.And, Subs: exprs(yes(), no())},
		api.Expr{Op: api.Const, Value: integer(1), Table: "t", Name: "a", Place: 7, Subs: exprs(by(api.And, yes(), no()), yes())})
	for op := -2; op <= api.Max+2; op++ {
		for n := range 5 {
			if op != 0 && (op != api.And || n != 2) {
				l = append(l, by(op, slices.Repeat(exprs(by(api.And, yes(), place(1))), n)...))
			}
		}
	}
	return l
}

// P10.3
func TestSplitOthers(t *testing.T) {
	for _, e := range plain() {
		checkSplit(t, e, e)
		checkSplit(t, by(api.And, e, yes()), e, yes())
		checkSplit(t, by(api.And, no(), e), no(), e)
		checkSplit(t, by(api.And, by(api.And, e, e), by(api.And, no(), e)), e, e, no(), e)
		checkSplit(t, by(api.Not, e), by(api.Not, e))
	}
}

// P10.3: an And that has not two parts.
func TestSplitAndOfOtherParts(t *testing.T) {
	for n := range 6 {
		if n == 2 {
			continue
		}
		e := by(api.And, slices.Repeat(exprs(by(api.And, yes(), no())), n)...)
		checkSplit(t, e, e)
		checkSplit(t, by(api.And, e, e), e, e)
		checkSplit(t, by(api.And, by(api.And, yes(), e), no()), yes(), e, no())
		e.Name = "a"
		checkSplit(t, e, e)
	}
	long := by(api.And, slices.Repeat(exprs(yes()), 1<<16)...)
	checkSplit(t, long, long)
}

// P10.3: Op 0 has none, whatever else there is.
func TestSplitNone(t *testing.T) {
	for _, none := range exprs(api.Expr{}, api.Expr{Subs: exprs()}, api.Expr{Subs: exprs(yes(), no())}, api.Expr{Name: "a", Table: "t"}, api.Expr{Value: integer(1)}, api.Expr{Place: 1}) {
		checkSplit(t, none)
		checkSplit(t, by(api.And, none, none))
		checkSplit(t, by(api.And, none, yes()), yes())
		checkSplit(t, by(api.And, yes(), none), yes())
		checkSplit(t, by(api.And, by(api.And, none, place(1)), by(api.And, null(), none)), place(1), null())
		checkSplit(t, by(api.Or, none, none), by(api.Or, none, none))
	}
}

// P10.3: what else an And has does not matter.
func TestSplitAndWithFields(t *testing.T) {
	for _, e := range withFields(by(api.And, yes(), place(2))) {
		checkSplit(t, e, yes(), place(2))
		checkSplit(t, by(api.And, e, e), yes(), place(2), yes(), place(2))
	}
}

// ands: all trees of And's over these leaves, in their order.
func ands(leaves []api.Expr) []api.Expr {
	if len(leaves) == 1 {
		return leaves
	}
	var l []api.Expr
	for i := 1; i < len(leaves); i++ {
		for _, a := range ands(leaves[:i]) {
			for _, b := range ands(leaves[i:]) {
				l = append(l, by(api.And, a, b))
			}
		}
	}
	return l
}

// P10.3: And's of And's on either side.
func TestSplitTrees(t *testing.T) {
	leaves := exprs(place(0), by(api.Not, by(api.And, yes(), no())), place(2), by(api.Or, place(3), by(api.And, yes(), no())), whole(4), null(), place(6))
	counts := []int{1, 1, 2, 5, 14, 42, 132}
	for n := 1; n <= len(leaves); n++ {
		l := ands(leaves[:n])
		if len(l) != counts[n-1] {
			t.Fatalf("%d trees over %d leaves", len(l), n)
		}
		for _, e := range l {
			checkSplit(t, e, leaves[:n]...)
		}
	}
}

// P10.3: And's within each other, up to MaxDepth and beyond.
func TestSplitDepth(t *testing.T) {
	left := func(e api.Expr) api.Expr { return by(api.And, e, place(1)) }
	right := func(e api.Expr) api.Expr { return by(api.And, place(1), e) }
	for n := 1; n <= 30; n++ {
		// The And that lies within 11 others, and all within it, is one conjunct.
		split := min(n-1, 11)
		inner := func(wrap func(api.Expr) api.Expr) api.Expr { return nested(n-split, wrap, no()) }
		others := slices.Repeat(exprs(place(1)), split)
		checkSplit(t, nested(n, left, no()), append(exprs(inner(left)), others...)...)
		checkSplit(t, nested(n, right, no()), append(slices.Clone(others), inner(right))...)
		turn := 0
		zigzag := func(e api.Expr) api.Expr {
			turn++
			if turn%2 == 0 {
				return left(e)
			}
			return right(e)
		}
		e := nested(n, zigzag, no())
		if got := Split(e); len(got) != split+1 {
			t.Errorf("Split of %d And's, to and fro: %d conjuncts", n-1, len(got))
		}
	}
	full := place(0)
	for n := range 14 {
		kept := full
		want := 1 << min(n, 11)
		for range min(n, 11) {
			kept = kept.Subs[0]
		}
		checkSplit(t, full, slices.Repeat(exprs(kept), want)...)
		full = by(api.And, full, full)
	}
}

// What holds everywhere: each call ends, whatever comes in.
func TestSplitEnds(t *testing.T) {
	deep := nested(1<<16, func(e api.Expr) api.Expr { return by(api.Neg, e) }, yes())
	checkSplit(t, deep, deep)
	checkSplit(t, by(api.And, yes(), deep), yes(), deep)
	spine := nested(1<<16, func(e api.Expr) api.Expr { return by(api.And, e, null()) }, yes())
	if l := Split(spine); len(l) != 12 || depthOf(l[0]) != 1<<16-11 {
		t.Errorf("Split of And's within each other: %d conjuncts", len(l))
	}
}

// What holds everywhere: what is handed in is not changed, the spare room of lists neither; what comes out is free to be changed.
func TestSplitChangesNothing(t *testing.T) {
	shared := exprs(by(api.Not, place(1)), by(api.IsNull, by(api.Neg, place(2))), yes())
	for _, e := range exprs(
		by(api.Or, yes(), by(api.Not, no())),
		by(api.And, by(api.Not, by(api.Not, yes())), by(api.And, by(api.Plus, place(1), place(2)), by(api.Neg, whole(1)))),
		by(api.And, by(api.And, by(api.IsNull, null()), no()), by(api.Max, place(1))),
	) {
		e = roomyExpr(e)
		kept := toldOf(e)
		checkSplit(t, e, conjunctsOf(e)...)
		scribble(Split(e))
		if toldOf(e) != kept {
			t.Fatalf("Split changed %s into %s", kept, toldOf(e))
		}
	}
	// Parts that share memory where they are handed in share none in the answer.
	for _, e := range exprs(by(api.And, by(api.Or, shared...), by(api.Min, shared[:2]...)), by(api.And, by(api.Or, shared[:2]...), by(api.Or, shared[1:]...)), by(api.Or, by(api.Or, shared...), by(api.Or, shared...))) {
		checkSplit(t, e, conjunctsOf(e)...)
	}
}

// conjunctsOf: of And's of two parts, not too many within each other.
func conjunctsOf(e api.Expr) []api.Expr {
	if e.Op != api.And {
		return exprs(e)
	}
	return slices.Concat(conjunctsOf(e.Subs[0]), conjunctsOf(e.Subs[1]))
}

// scribble writes over all lists of an answer, and over their spare room.
func scribble(l []api.Expr) {
	for i, e := range l[:cap(l)] {
		scribble(e.Subs)
		l[:cap(l)][i] = api.Expr{Op: api.Max, Name: "scribble", Value: integer(i)}
	}
}
