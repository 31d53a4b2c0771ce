package plan

import (
	"fmt"
	"math"
	"slices"
	"strings"
	"testing"

	"commonhold/api"
	"commonhold/value"
)

// checkSimple: whether an expression is simple, wherever it stands.
func checkSimple(t *testing.T, e api.Expr, want bool) {
	t.Helper()
	good := equal(0, whole(1))
	n := 0
	if want {
		n = 1
	}
	checkLead(t, all(e), n)
	checkLead(t, all(e, twofold()), n)
	checkLead(t, all(good, e), 1+n)
	checkLead(t, all(good, e, good), 1+2*n)
}

// P15.1: none, some and all of what is asked are simple.
func TestLead(t *testing.T) {
	checkLead(t, nil, 0)
	checkLead(t, all(), 0)
	good, bad := turned(3, api.Less, words("a")), twofold()
	for n := range 6 {
		asked := slices.Repeat(all(good), n)
		checkLead(t, asked, n)
		for i := range n {
			wrong := slices.Clone(asked)
			wrong[i] = bad
			checkLead(t, wrong, i)
			wrong[n-1] = bad
			checkLead(t, wrong, i)
		}
	}
	checkLead(t, slices.Repeat(all(good), 5000), 5000)
	checkLead(t, append(slices.Repeat(all(good), 4999), bad), 4999)
}

// P15.1: the five comparisons, in either order, by values of each Kind.
func TestSimple(t *testing.T) {
	for _, op := range comparisons() {
		for _, kind := range []int{api.Truth, api.Int, api.Text} {
			for _, v := range ofKind(kind) {
				checkSimple(t, of(op, place(0), constant(v)), true)
				checkSimple(t, of(op, constant(v), place(0)), true)
			}
		}
	}
}

// P15.1: no other Op is simple.
func TestSimpleOps(t *testing.T) {
	ops := []int{math.MinInt64, -api.Equal, 1 << 32, 1<<32 + api.Equal, math.MaxInt64}
	for op := -3; op < api.Max+30; op++ {
		ops = append(ops, op)
	}
	for _, op := range ops {
		want := slices.Contains(comparisons(), op)
		checkSimple(t, of(op, place(0), constant(whole(1))), want)
		checkSimple(t, of(op, constant(whole(1)), place(0)), want)
	}
	checkSimple(t, api.Expr{}, false)
	checkSimple(t, place(0), false)
	checkSimple(t, constant(truth(1)), false)
	checkSimple(t, of(api.Not, equal(0, whole(1))), false)
}

// P15.1: two parts, a Place and a Const, and no others.
func TestSimpleParts(t *testing.T) {
	p, c := place(0), constant(whole(1))
	named := api.Expr{Op: api.Named, Name: "a"}
	for _, op := range comparisons() {
		for _, subs := range [][]api.Expr{
			nil, all(), all(p), all(c), all(p, p), all(c, c), all(place(0), place(1)), all(p, c, c), all(c, p, p), all(p, c, p), all(p, p, c), all(c, c, p), all(p, c, api.Expr{}), all(api.Expr{}, p, c),
			all(p, api.Expr{}), all(api.Expr{}, c), all(c, api.Expr{}), all(api.Expr{}, p), all(named, c), all(c, named), all(p, named), all(named, p),
			all(p, of(api.Neg, c)), all(of(api.Neg, p), c), all(of(api.Plus, p, c), c), all(p, of(api.Plus, c, c)), all(equal(0, whole(1)), c), all(p, equal(0, whole(1))), all(p, c, p, c), slices.Repeat(all(p, c), 500),
		} {
			checkSimple(t, of(op, subs...), false)
		}
		// Any Op in the place of one of the two.
		for other := -3; other < api.Max+3; other++ {
			q, d := p, c
			q.Op, d.Op = other, other
			checkSimple(t, of(op, q, c), other == api.Place)
			checkSimple(t, of(op, c, q), other == api.Place)
			checkSimple(t, of(op, p, d), other == api.Const)
			checkSimple(t, of(op, d, p), other == api.Const)
		}
	}
}

// P15.1: the place is from 0 on, whether a table has it or not.
func TestSimplePlaces(t *testing.T) {
	for _, i := range []int{0, 1, api.MaxCols - 1, api.MaxCols, api.MaxCols + 1, 1000, 1 << 32, math.MaxInt64, -1, -2, -1 << 32, math.MinInt64} {
		for _, op := range comparisons() {
			checkSimple(t, limiting(i, op, whole(1)), i >= 0)
			checkSimple(t, turned(i, op, whole(1)), i >= 0)
		}
	}
}

// wrongValues: what may not limit a column, and what P2.1 refuses of it.
func wrongValues() map[api.Value]api.Errno {
	return map[api.Value]api.Errno{
		null:                               api.OK,
		{Kind: -1}:                         api.ErrKind,
		{Kind: api.Text + 1}:               api.ErrKind,
		{Kind: math.MaxInt64}:              api.ErrKind,
		{Kind: math.MinInt64}:              api.ErrKind,
		words(zeros + "a"):                 api.ErrSize,
		words(strings.Repeat("a", 100000)): api.ErrSize,
		{Kind: api.Int, Text: zeros + "a"}: api.ErrSize,
		{Kind: api.Int, Text: "a"}:         api.ErrForm,
		{Kind: api.Truth, Text: "a"}:       api.ErrForm,
		{Kind: api.Text, Int: 1}:           api.ErrForm,
		{Kind: api.Null, Int: 1}:           api.ErrForm,
		{Kind: api.Null, Text: "a"}:        api.ErrForm,
		truth(2):                           api.ErrForm,
		truth(-1):                          api.ErrForm,
		words("\xff"):                      api.ErrForm,
		words("a\xc3"):                     api.ErrForm,
	}
}

// P15.1: the Const may be, and is not Null.
func TestSimpleValues(t *testing.T) {
	for v, code := range wrongValues() {
		if got := value.Check(v); got != code {
			t.Errorf("Check(%s): %d, want %d", brief(v), got, code)
		}
		for _, op := range comparisons() {
			checkSimple(t, limiting(0, op, v), false)
			checkSimple(t, turned(0, op, v), false)
		}
	}
}

// P15.1: other fields are zero, and Place and Const have no parts.
func TestSimpleFields(t *testing.T) {
	type change func(*api.Expr)
	table := func(e *api.Expr) { e.Table = "t" }
	name := func(e *api.Expr) { e.Name = "a" }
	subs := func(l ...api.Expr) change { return func(e *api.Expr) { e.Subs = l } }
	val := func(v api.Value) change { return func(e *api.Expr) { e.Value = v } }
	at := func(i int) change { return func(e *api.Expr) { e.Place = i } }
	values := []change{val(whole(1)), val(whole(0)), val(truth(1)), val(words("")), val(words("a")), val(api.Value{Int: 1}), val(api.Value{Text: "a"}), val(api.Value{Kind: -1})}
	places := []change{at(1), at(-1), at(math.MaxInt64), at(math.MinInt64)}
	parts := []change{subs(place(0)), subs(constant(whole(1))), subs(api.Expr{}), subs(place(0), constant(whole(1)))}
	names := []change{table, name}
	for _, op := range comparisons() {
		for first, e := range all(limiting(0, op, whole(1)), turned(0, op, whole(1))) {
			check := func(spoilt func(e *api.Expr) *api.Expr, lists ...[]change) {
				for _, c := range slices.Concat(lists...) {
					x := e
					x.Subs = slices.Clone(e.Subs)
					c(spoilt(&x))
					checkSimple(t, x, false)
				}
			}
			check(func(e *api.Expr) *api.Expr { return e }, names, values, places)
			check(func(e *api.Expr) *api.Expr { return &e.Subs[first] }, names, values, parts)
			check(func(e *api.Expr) *api.Expr { return &e.Subs[1-first] }, names, places, parts)
		}
	}
	// Lists without elements are no parts, nil or not.
	p, c := place(0), constant(whole(1))
	p.Subs, c.Subs = all(), all()
	checkSimple(t, of(api.Equal, p, c), true)
	checkSimple(t, of(api.Less, c, p), true)
}

// What holds everywhere: parts that have themselves as parts, and parts far within each other.
func TestLeadEnds(t *testing.T) {
	for op := range api.Max + 2 {
		round := make([]api.Expr, 2)
		round[0], round[1] = of(op, round...), of(op, round...)
		round[0].Subs, round[1].Subs = round, round
		inner := of(op, place(0), constant(whole(1)))
		inner.Subs[0].Subs = inner.Subs
		deep := constant(whole(1))
		for range 1 << 16 {
			deep = of(op, place(0), deep)
		}
		for i, asked := range [][]api.Expr{round, all(inner), all(deep)} {
			if n := Lead(asked); n != 0 {
				t.Errorf("op %d, example %d: %d", op, i, n)
			}
			if a, code := Choose(several(), 0, asked); code != api.OK || !alike(a, within(0, 0)) {
				t.Errorf("op %d, example %d: %v, %d", op, i, a, code)
			}
		}
	}
}

// P15.1: what each limits, by what is read.
func TestLimits(t *testing.T) {
	l := several()
	p, c := keyOf(0, 0), keyOf(0, 0, whole(5))
	for op, want := range map[int]api.Access{
		api.Equal: between(0, c, behind(c)),
		api.Less:  between(0, p, c),
		api.Most:  between(0, p, behind(c)),
		api.More:  between(0, behind(c), behind(p)),
		api.Least: between(0, c, behind(p)),
	} {
		checkChoose(t, l, 0, all(of(op, place(0), constant(whole(5)))), want, api.OK)
		other := op
		switch op {
		case api.Less:
			other = api.More
		case api.More:
			other = api.Less
		case api.Most:
			other = api.Least
		case api.Least:
			other = api.Most
		}
		checkChoose(t, l, 0, all(of(other, constant(whole(5)), place(0))), want, api.OK)
	}
}

// The tests' own ways to tell a limit have the same parts.
func TestTurned(t *testing.T) {
	for _, op := range comparisons() {
		a, b := limiting(1, op, whole(2)), turned(1, op, whole(2))
		if a.Subs[0].Op != api.Place || b.Subs[0].Op != api.Const || fmt.Sprint(a.Subs[1]) != fmt.Sprint(b.Subs[0]) || fmt.Sprint(a.Subs[0]) != fmt.Sprint(b.Subs[1]) {
			t.Errorf("%s and %s", brief(a), brief(b))
		}
	}
}
