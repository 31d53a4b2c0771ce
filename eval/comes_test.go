package eval

import (
	"cmp"
	"math"
	"math/big"
	"slices"
	"strings"
	"testing"

	"commonhold/api"
)

func checkEval(t *testing.T, e api.Expr, row []api.Value, want api.Value, wantCode api.Errno) {
	t.Helper()
	if got, code := Eval(e, row); got != want || code != wantCode {
		t.Errorf("Eval(%s, %s): %v, %d; want %v, %d", brief(e), brief(row), got, code, want, wantCode)
	}
}

// comes: what an expression is to come to.
type comes struct {
	v    api.Value
	code api.Errno
}

// ofNumber: a number as it is to be told.
func ofNumber(n *big.Int) comes {
	if !n.IsInt64() {
		return comes{code: api.ErrOver}
	}
	return comes{v: integer(int(n.Int64()))}
}

// reckoned: what is to come of numbers, by numbers of any size.
func reckoned(op int, l []api.Value) comes {
	kinds := func(kind int) func(api.Value) bool { return func(v api.Value) bool { return v.Kind == kind } }
	if slices.ContainsFunc(l, kinds(api.Truth)) || slices.ContainsFunc(l, kinds(api.Text)) {
		return comes{code: api.ErrType}
	}
	if slices.ContainsFunc(l, kinds(api.Null)) {
		return comes{}
	}
	a := big.NewInt(int64(l[0].Int))
	if op == api.Neg {
		return ofNumber(new(big.Int).Neg(a))
	}
	b := big.NewInt(int64(l[1].Int))
	switch {
	case op == api.Plus:
		return ofNumber(new(big.Int).Add(a, b))
	case op == api.Minus:
		return ofNumber(new(big.Int).Sub(a, b))
	case op == api.Times:
		return ofNumber(new(big.Int).Mul(a, b))
	case b.Sign() == 0:
		return comes{code: api.ErrZero}
	case op == api.Over:
		return ofNumber(new(big.Int).Quo(a, b))
	}
	return ofNumber(new(big.Int).Rem(a, b))
}

func ofTruth(so bool) comes {
	if so {
		return comes{v: truth(1)}
	}
	return comes{v: truth(0)}
}

// compared: what is to come of a comparison.
func compared(op int, a, b api.Value) comes {
	if a.Kind == api.Null || b.Kind == api.Null {
		return comes{}
	}
	if a.Kind != b.Kind {
		return comes{code: api.ErrType}
	}
	n := cmp.Compare(a.Int, b.Int)
	if a.Kind == api.Text {
		n = strings.Compare(a.Text, b.Text)
	}
	switch op {
	case api.Equal:
		return ofTruth(n == 0)
	case api.Differ:
		return ofTruth(n != 0)
	case api.Less:
		return ofTruth(n < 0)
	case api.Most:
		return ofTruth(n <= 0)
	case api.More:
		return ofTruth(n > 0)
	}
	return ofTruth(n >= 0)
}

// both: what is to come of And, where settles is No, or of Or, where it is Yes.
func both(settles, a, b api.Value) comes {
	isTruth := func(v api.Value) bool { return v.Kind == api.Null || v.Kind == api.Truth }
	switch {
	case !isTruth(a):
		return comes{code: api.ErrType}
	case a == settles:
		return comes{v: settles}
	case !isTruth(b):
		return comes{code: api.ErrType}
	case b == settles:
		return comes{v: settles}
	case a.Kind == api.Null || b.Kind == api.Null:
		return comes{}
	}
	return comes{v: truth(1 - settles.Int)}
}

// wanted: what is to come of an Op with these parts.
func wanted(op int, l []api.Value) comes {
	switch {
	case op == api.Not && l[0].Kind == api.Null:
		return comes{}
	case op == api.Not && l[0].Kind == api.Truth:
		return comes{v: truth(1 - l[0].Int)}
	case op == api.Not:
		return comes{code: api.ErrType}
	case op == api.IsNull || op == api.IsSome:
		return ofTruth((l[0].Kind == api.Null) == (op == api.IsNull))
	case op == api.And:
		return both(truth(0), l[0], l[1])
	case op == api.Or:
		return both(truth(1), l[0], l[1])
	case op >= api.Equal && op <= api.Least:
		return compared(op, l[0], l[1])
	}
	return reckoned(op, l)
}

// P10.2
func TestEvalConstAndPlace(t *testing.T) {
	row := values()
	for i, v := range row {
		checkEval(t, constant(v), nil, v, api.OK)
		checkEval(t, constant(v), row, v, api.OK)
		checkEval(t, place(i), row, v, api.OK)
		checkEval(t, place(i), row[:i+1], v, api.OK)
		checkEval(t, place(i), row[:i], api.Value{}, api.ErrForm)
		checkEval(t, place(0), row[i:], v, api.OK)
	}
	checkEval(t, place(0), []api.Value{}, api.Value{}, api.ErrForm)
	checkEval(t, place(-1), row, api.Value{}, api.ErrForm)
	checkEval(t, place(math.MaxInt64), row, api.Value{}, api.ErrForm)
}

// P10.2: each Op over all values of one part.
func TestEvalOnePart(t *testing.T) {
	for _, op := range oneParted() {
		for _, v := range values() {
			want := wanted(op, []api.Value{v})
			checkEval(t, by(op, constant(v)), nil, want.v, want.code)
			checkEval(t, by(op, place(0)), []api.Value{v}, want.v, want.code)
			checkEval(t, by(op, place(1)), []api.Value{integer(9), v, truth(1)}, want.v, want.code)
		}
	}
}

// P10.2: each Op over all values of two parts.
func TestEvalTwoParts(t *testing.T) {
	for _, op := range twoParted() {
		for _, a := range values() {
			for _, b := range values() {
				want := wanted(op, []api.Value{a, b})
				checkEval(t, by(op, constant(a), constant(b)), nil, want.v, want.code)
				checkEval(t, by(op, place(0), place(1)), []api.Value{a, b}, want.v, want.code)
				checkEval(t, by(op, place(2), constant(b)), []api.Value{b, {}, a}, want.v, want.code)
				checkEval(t, by(op, constant(a), place(0)), []api.Value{b, a}, want.v, want.code)
			}
			want := wanted(op, []api.Value{a, a})
			checkEval(t, by(op, place(1), place(1)), []api.Value{text("x"), a}, want.v, want.code)
		}
	}
}

// P10.2: some answers told by hand, so that not all hangs on what this test works out.
func TestEvalByHand(t *testing.T) {
	least, greatest := math.MinInt64, math.MaxInt64
	for _, x := range []struct {
		op   int
		l    []api.Value
		v    api.Value
		code api.Errno
	}{
		{api.Neg, []api.Value{integer(5)}, integer(-5), api.OK},
		{api.Neg, []api.Value{integer(least)}, api.Value{}, api.ErrOver},
		{api.Neg, []api.Value{{}}, api.Value{}, api.OK},
		{api.Neg, []api.Value{truth(1)}, api.Value{}, api.ErrType},
		{api.Neg, []api.Value{text("5")}, api.Value{}, api.ErrType},
		{api.Plus, []api.Value{integer(2), integer(3)}, integer(5), api.OK},
		{api.Plus, []api.Value{integer(greatest), integer(1)}, api.Value{}, api.ErrOver},
		{api.Plus, []api.Value{{}, text("a")}, api.Value{}, api.ErrType},
		{api.Plus, []api.Value{truth(1), {}}, api.Value{}, api.ErrType},
		{api.Plus, []api.Value{integer(1), {}}, api.Value{}, api.OK},
		{api.Plus, []api.Value{text("a"), text("b")}, api.Value{}, api.ErrType},
		{api.Minus, []api.Value{integer(2), integer(3)}, integer(-1), api.OK},
		{api.Minus, []api.Value{integer(least), integer(1)}, api.Value{}, api.ErrOver},
		{api.Times, []api.Value{integer(-2), integer(3)}, integer(-6), api.OK},
		{api.Times, []api.Value{integer(least), integer(-1)}, api.Value{}, api.ErrOver},
		{api.Over, []api.Value{integer(-7), integer(2)}, integer(-3), api.OK},
		{api.Over, []api.Value{integer(least), integer(-1)}, api.Value{}, api.ErrOver},
		{api.Over, []api.Value{integer(7), integer(0)}, api.Value{}, api.ErrZero},
		{api.Over, []api.Value{{}, integer(0)}, api.Value{}, api.OK},
		{api.Over, []api.Value{text(""), integer(0)}, api.Value{}, api.ErrType},
		{api.Rest, []api.Value{integer(-7), integer(2)}, integer(-1), api.OK},
		{api.Rest, []api.Value{integer(least), integer(-1)}, integer(0), api.OK},
		{api.Rest, []api.Value{integer(0), integer(0)}, api.Value{}, api.ErrZero},
		{api.Rest, []api.Value{{}, integer(0)}, api.Value{}, api.OK},
		{api.Equal, []api.Value{text("a"), text("a")}, truth(1), api.OK},
		{api.Equal, []api.Value{text("a"), {}}, api.Value{}, api.OK},
		{api.Equal, []api.Value{{}, {}}, api.Value{}, api.OK},
		{api.Equal, []api.Value{truth(1), integer(1)}, api.Value{}, api.ErrType},
		{api.Differ, []api.Value{integer(2), integer(3)}, truth(1), api.OK},
		{api.Less, []api.Value{truth(0), truth(1)}, truth(1), api.OK},
		{api.Most, []api.Value{text("b"), text("ab")}, truth(0), api.OK},
		{api.More, []api.Value{integer(3), integer(3)}, truth(0), api.OK},
		{api.Least, []api.Value{integer(3), integer(3)}, truth(1), api.OK},
		{api.IsNull, []api.Value{{}}, truth(1), api.OK},
		{api.IsNull, []api.Value{text("")}, truth(0), api.OK},
		{api.IsSome, []api.Value{{}}, truth(0), api.OK},
		{api.IsSome, []api.Value{truth(0)}, truth(1), api.OK},
		{api.Not, []api.Value{{}}, api.Value{}, api.OK},
		{api.Not, []api.Value{truth(0)}, truth(1), api.OK},
		{api.Not, []api.Value{integer(0)}, api.Value{}, api.ErrType},
		{api.And, []api.Value{truth(0), integer(1)}, truth(0), api.OK},
		{api.And, []api.Value{integer(1), truth(0)}, api.Value{}, api.ErrType},
		{api.And, []api.Value{{}, truth(0)}, truth(0), api.OK},
		{api.And, []api.Value{{}, truth(1)}, api.Value{}, api.OK},
		{api.And, []api.Value{truth(1), truth(1)}, truth(1), api.OK},
		{api.And, []api.Value{{}, text("")}, api.Value{}, api.ErrType},
		{api.Or, []api.Value{truth(1), integer(1)}, truth(1), api.OK},
		{api.Or, []api.Value{text(""), truth(1)}, api.Value{}, api.ErrType},
		{api.Or, []api.Value{{}, truth(1)}, truth(1), api.OK},
		{api.Or, []api.Value{{}, truth(0)}, api.Value{}, api.OK},
		{api.Or, []api.Value{truth(0), truth(0)}, truth(0), api.OK},
		{api.Or, []api.Value{truth(0), integer(0)}, api.Value{}, api.ErrType},
	} {
		var subs []api.Expr
		for _, v := range x.l {
			subs = append(subs, constant(v))
		}
		checkEval(t, by(x.op, subs...), nil, x.v, x.code)
	}
}

// refusal: an expression that may be asked, and is refused.
type refusal struct {
	e    api.Expr
	code api.Errno
}

func refusals() []refusal {
	return []refusal{
		{by(api.Over, whole(1), whole(0)), api.ErrZero},
		{by(api.Rest, whole(0), whole(0)), api.ErrZero},
		{by(api.Neg, whole(math.MinInt64)), api.ErrOver},
		{by(api.Times, whole(math.MaxInt64), whole(2)), api.ErrOver},
		{by(api.Equal, whole(1), constant(text("1"))), api.ErrType},
		{by(api.Not, whole(1)), api.ErrType},
		{by(api.IsNull, by(api.Over, whole(1), whole(0))), api.ErrZero},
		{by(api.And, null(), by(api.IsSome, by(api.Plus, whole(math.MaxInt64), whole(1)))), api.ErrOver},
	}
}

// P10.2: what is refused of the first part that is refused, is refused.
func TestEvalPartsRefused(t *testing.T) {
	for _, r := range refusals() {
		checkEval(t, r.e, nil, api.Value{}, r.code)
		for _, op := range oneParted() {
			checkEval(t, by(op, r.e), nil, api.Value{}, r.code)
		}
		for _, op := range twoParted() {
			for _, v := range values() {
				checkEval(t, by(op, r.e, constant(v)), nil, api.Value{}, r.code)
				want := comes{code: r.code}
				if op == api.And || op == api.Or {
					want = behind(op, v, r.code)
				}
				checkEval(t, by(op, constant(v), r.e), nil, want.v, want.code)
				checkEval(t, by(op, place(0), r.e), []api.Value{v}, want.v, want.code)
			}
			for _, other := range refusals() {
				checkEval(t, by(op, r.e, other.e), nil, api.Value{}, r.code)
			}
		}
	}
}

// behind: what And or Or comes to, whose first part came to a value, and whose other part is refused with a code.
func behind(op int, first api.Value, code api.Errno) comes {
	switch {
	case first.Kind == api.Int || first.Kind == api.Text:
		return comes{code: api.ErrType}
	case op == api.And && first == truth(0), op == api.Or && first == truth(1):
		return comes{v: first}
	}
	return comes{code: code}
}

// P10.2: a part that settles it is not the first one, and lies within others.
func TestEvalSettled(t *testing.T) {
	for _, r := range refusals() {
		bad := r.e
		checkEval(t, by(api.And, by(api.And, no(), bad), bad), nil, truth(0), api.OK)
		checkEval(t, by(api.And, by(api.And, yes(), no()), bad), nil, truth(0), api.OK)
		checkEval(t, by(api.And, by(api.Or, yes(), bad), no()), nil, truth(0), api.OK)
		checkEval(t, by(api.And, yes(), by(api.And, no(), bad)), nil, truth(0), api.OK)
		checkEval(t, by(api.Or, by(api.Or, yes(), bad), bad), nil, truth(1), api.OK)
		checkEval(t, by(api.Or, by(api.Not, no()), bad), nil, truth(1), api.OK)
		checkEval(t, by(api.Or, by(api.And, no(), bad), null()), nil, api.Value{}, api.OK)
		checkEval(t, by(api.Or, null(), by(api.Or, yes(), bad)), nil, truth(1), api.OK)
		checkEval(t, by(api.And, by(api.IsNull, bad), no()), nil, api.Value{}, r.code)
		checkEval(t, by(api.And, null(), bad), nil, api.Value{}, r.code)
		checkEval(t, by(api.Or, by(api.Or, no(), null()), bad), nil, api.Value{}, r.code)
		checkEval(t, by(api.Plus, constant(text("a")), bad), nil, api.Value{}, r.code)
		checkEval(t, by(api.Equal, null(), bad), nil, api.Value{}, r.code)
	}
}

// P10.2: an expression may not be asked whose part may not, though nothing asks that part.
func TestEvalFormAheadOfAll(t *testing.T) {
	for _, bad := range exprs(place(1), api.Expr{}, by(api.CountAll), constant(truth(2)), by(api.And, yes()), api.Expr{Op: api.Named, Name: "a"}) {
		for _, e := range exprs(bad, by(api.And, no(), bad), by(api.Or, yes(), bad), by(api.Plus, by(api.Over, whole(1), whole(0)), bad), by(api.Plus, constant(text("a")), bad), by(api.IsNull, bad)) {
			checkEval(t, e, []api.Value{{}}, api.Value{}, api.ErrForm)
			for _, w := range wrongs() {
				checkEval(t, e, []api.Value{w.v}, api.Value{}, api.ErrForm)
			}
		}
	}
}

// P10.2: what is refused of the row's values, one by one, whether they are asked or not.
func TestEvalRowRefused(t *testing.T) {
	good := []api.Value{integer(1), {}, text("a"), truth(1)}
	asked := exprs(yes(), null(), place(0), place(3), by(api.And, no(), place(2)), by(api.Over, place(0), whole(0)), by(api.Neg, place(2)), by(api.Plus, place(2), place(3)))
	for at := range good {
		for _, w := range wrongs() {
			row := slices.Clone(good)
			row[at] = w.v
			for _, e := range asked {
				checkEval(t, e, row, api.Value{}, w.code)
				checkEval(t, by(api.Or, yes(), e), row, api.Value{}, w.code)
			}
			checkEval(t, place(4), row, api.Value{}, api.ErrForm)
			checkEval(t, api.Expr{}, row, api.Value{}, api.ErrForm)
			for later := at + 1; later < len(row); later++ {
				for _, other := range wrongs() {
					two := slices.Clone(row)
					two[later] = other.v
					checkEval(t, place(1), two, api.Value{}, w.code)
				}
			}
		}
	}
}

// all: expressions of up to so many within each other, over some leaves.
func all(depth int, leaves []api.Expr, ones, twos []int) []api.Expr {
	l := slices.Clone(leaves)
	if depth == 1 {
		return l
	}
	parts := all(depth-1, leaves, ones, twos)
	for _, a := range parts {
		for _, op := range ones {
			l = append(l, by(op, a))
		}
		for _, op := range twos {
			for _, b := range parts {
				l = append(l, by(op, a, b))
			}
		}
	}
	return l
}

// asked: what an expression is to come to, part by part.
func asked(e api.Expr, row []api.Value) comes {
	switch e.Op {
	case api.Const:
		return comes{v: e.Value}
	case api.Place:
		return comes{v: row[e.Place]}
	}
	var l []api.Value
	for i, sub := range e.Subs {
		x := asked(sub, row)
		if i == 1 && (e.Op == api.And || e.Op == api.Or) {
			if first := behind(e.Op, l[0], x.code); first != (comes{code: x.code}) {
				return first
			}
		}
		if x.code != api.OK {
			return x
		}
		l = append(l, x.v)
	}
	return wanted(e.Op, l)
}

// P10.2: all small expressions.
func TestEvalSmall(t *testing.T) {
	row := []api.Value{integer(math.MaxInt64), truth(0), {}}
	leaves := exprs(place(0), place(1), place(2), yes(), whole(0), constant(text("a")))
	for _, l := range [][]api.Expr{
		all(2, leaves, oneParted(), twoParted()),
		all(3, leaves, []int{api.Neg, api.Not}, []int{api.And, api.Or, api.Over, api.Less}),
		all(3, leaves[:4], []int{api.IsNull, api.Neg}, []int{api.And, api.Or, api.Plus, api.Equal}),
	} {
		for _, e := range l {
			want := asked(e, row)
			checkEval(t, e, row, want.v, want.code)
		}
	}
}

// P10.2: MaxDepth expressions within each other, and each goes into what comes of the whole.
func TestEvalDeep(t *testing.T) {
	for n := 1; n <= 14; n++ {
		want, code := integer(n-1), api.OK
		other, flipped := truth(n%2), truth(1)
		if n > 12 {
			want, other, flipped, code = api.Value{}, api.Value{}, api.Value{}, api.ErrForm
		}
		checkEval(t, nested(n, func(e api.Expr) api.Expr { return by(api.Plus, e, whole(1)) }, place(1)), []api.Value{{}, integer(0)}, want, code)
		checkEval(t, nested(n, func(e api.Expr) api.Expr { return by(api.Plus, whole(1), e) }, place(0)), []api.Value{integer(0)}, want, code)
		checkEval(t, nested(n, func(e api.Expr) api.Expr { return by(api.Not, e) }, yes()), nil, other, code)
		checkEval(t, nested(n, func(e api.Expr) api.Expr { return by(api.And, yes(), e) }, yes()), nil, flipped, code)
	}
	full := whole(1)
	for n := range 11 {
		checkEval(t, full, nil, integer(1<<n), api.OK)
		full = by(api.Plus, full, full)
	}
}

// What holds everywhere: each call ends, whatever comes in.
func TestEvalEnds(t *testing.T) {
	for _, e := range selfish() {
		checkEval(t, e, []api.Value{truth(1)}, api.Value{}, api.ErrForm)
	}
	row := make([]api.Value, 1<<20)
	row[1<<20-1] = integer(3)
	checkEval(t, place(1<<20-1), row, integer(3), api.OK)
	checkEval(t, place(1<<20), row, api.Value{}, api.ErrForm)
	row[1<<20-1].Kind = 9
	checkEval(t, place(0), row, api.Value{}, api.ErrKind)
}

// What holds everywhere: what is handed in is not changed, the spare room of lists neither.
func TestEvalChangesNothing(t *testing.T) {
	row := roomy([]api.Value{integer(1), truth(1), {}}, integer(7))
	keptRow := toldOf(row)
	for _, e := range all(2, exprs(place(0), place(1), place(2), no()), oneParted(), twoParted()) {
		for _, x := range exprs(e, by(api.Not, by(api.Or, e, e))) {
			x = roomyExpr(x)
			kept := toldOf(x)
			first, firstCode := Eval(x, row)
			second, secondCode := Eval(x, row)
			if toldOf(x) != kept || toldOf(row) != keptRow {
				t.Fatalf("Eval changed %s", brief(x))
			}
			if first != second || firstCode != secondCode {
				t.Fatalf("Eval(%s): %v, %d, then %v, %d", brief(x), first, firstCode, second, secondCode)
			}
		}
	}
}
