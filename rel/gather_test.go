package rel

import (
	"fmt"
	"math"
	"math/big"
	"math/rand"
	"slices"
	"testing"

	"commonhold/api"
	"commonhold/eval"
	"commonhold/value"
)

// gatherings: each of Count to Max.
func gatherings() []int { return []int{api.Count, api.Sum, api.Min, api.Max} }

// asks: what each of CountAll, Count, Sum, Min and Max of the first value comes to, of rows that are one group.
func asks(t *testing.T, rows [][]api.Value, want ...api.Value) {
	t.Helper()
	items := exprs(countAll())
	for _, op := range gatherings() {
		items = append(items, by(op, place(0)))
	}
	check(t, groupBy, handed{rows: rows, exprs: items}, rowsOf(want), api.OK)
	for i, e := range items {
		check(t, groupBy, handed{rows: rows, exprs: exprs(e)}, rowsOf(want[i:i+1]), api.OK)
	}
}

// P12.5: parts that are Null in none, some and all of the rows; groups of none, one and several.
func TestGatherNumbers(t *testing.T) {
	null := api.Value{}
	none, one, two, three := number(0), number(1), number(2), number(3)
	asks(t, nil, none, none, null, null, null)
	asks(t, column(null), one, none, null, null, null)
	asks(t, column(null, null, null), three, none, null, null, null)
	asks(t, numbers(5), one, one, number(5), number(5), number(5))
	asks(t, numbers(0), one, one, none, none, none)
	asks(t, numbers(-5), one, one, number(-5), number(-5), number(-5))
	asks(t, numbers(5, -7), two, two, number(-2), number(-7), number(5))
	asks(t, numbers(-7, 5, 5), three, three, three, number(-7), number(5))
	asks(t, numbers(0, 0), two, two, none, none, none)
	asks(t, numbers(1, -1), two, two, none, number(-1), one)
	asks(t, column(null, number(4)), two, one, number(4), number(4), number(4))
	asks(t, column(number(4), null), two, one, number(4), number(4), number(4))
	asks(t, column(number(-4), null, number(-9)), three, two, number(-13), number(-9), number(-4))
	asks(t, column(null, number(9), number(4)), three, two, number(13), number(4), number(9))
	asks(t, numbers(math.MaxInt64), one, one, number(math.MaxInt64), number(math.MaxInt64), number(math.MaxInt64))
	asks(t, numbers(math.MinInt64), one, one, number(math.MinInt64), number(math.MinInt64), number(math.MinInt64))
	asks(t, numbers(math.MinInt64, math.MaxInt64), two, two, number(-1), number(math.MinInt64), number(math.MaxInt64))
}

// P12.5: Count, Min and Max go by all Kinds, also by several at once; Sum by none but Int.
func TestGatherKinds(t *testing.T) {
	items := exprs(countAll(), by(api.Count, place(0)), by(api.Min, place(0)), by(api.Max, place(0)))
	for _, x := range []struct {
		rows      [][]api.Value
		count     int
		low, high api.Value
	}{
		{column(truth(1)), 1, truth(1), truth(1)},
		{column(truth(0)), 1, truth(0), truth(0)},
		{column(truth(1), truth(0), truth(1)), 3, truth(0), truth(1)},
		{column(truth(0), api.Value{}), 1, truth(0), truth(0)},
		{column(text("")), 1, text(""), text("")},
		{column(text("b"), text("ab"), text("b")), 3, text("ab"), text("b")},
		{column(text("10"), text("9"), api.Value{}, text("")), 3, text(""), text("9")},
		{column(text("é"), text("z")), 2, text("z"), text("é")},
		{column(number(5), truth(1)), 2, truth(1), number(5)},
		{column(text(""), number(math.MaxInt64)), 2, number(math.MaxInt64), text("")},
		{column(text("a"), truth(0), api.Value{}, number(-1)), 3, truth(0), text("a")},
	} {
		want := rowsOf(row(number(len(x.rows)), number(x.count), x.low, x.high))
		check(t, groupBy, handed{rows: x.rows, exprs: items}, want, api.OK)
		slices.Reverse(x.rows)
		check(t, groupBy, handed{rows: x.rows, exprs: items}, want, api.OK)
		refused(t, groupBy, handed{rows: x.rows, exprs: exprs(by(api.Sum, place(0)))}, api.ErrType)
	}
	values := ascending()
	for i, a := range values {
		for j, b := range values {
			low, high := values[min(i, j)], values[max(i, j)]
			if low.Kind == api.Null {
				low = high
			}
			check(t, groupBy, handed{rows: column(a, b), exprs: items[2:]}, rowsOf(row(low, high)), api.OK)
		}
	}
}

// P12.5: each group is asked for itself.
func TestGatherByGroups(t *testing.T) {
	a, b, c := text("a"), text("b"), text("c")
	null := api.Value{}
	rows := rowsOf(row(b, number(3)), row(a, number(1)), row(b, null), row(c, null), row(b, number(-8)), row(a, number(4)))
	items := exprs(countAll())
	for _, op := range gatherings() {
		items = append(items, by(op, place(1)))
	}
	want := rowsOf(
		row(number(2), number(2), number(5), number(1), number(4)),
		row(number(3), number(2), number(-5), number(-8), number(3)),
		row(number(1), number(0), null, null, null),
	)
	check(t, groupBy, handed{rows: rows, groups: []int{0}, exprs: items}, want, api.OK)
}

// P12.5: the part is an expression, asked of each row.
func TestGatherParts(t *testing.T) {
	rows := rowsOf(row(number(1), number(10)), row(number(2), api.Value{}), row(number(3), number(30)))
	for _, x := range []struct {
		e api.Expr
		v api.Value
	}{
		{by(api.Sum, by(api.Plus, place(0), place(1))), number(44)},
		{by(api.Sum, by(api.Times, place(0), place(0))), number(14)},
		{by(api.Sum, by(api.Neg, place(0))), number(-6)},
		{by(api.Sum, whole(5)), number(15)},
		{by(api.Sum, null()), api.Value{}},
		{by(api.Count, whole(5)), number(3)},
		{by(api.Count, null()), number(0)},
		{by(api.Count, by(api.IsNull, place(1))), number(3)},
		{by(api.Count, by(api.Less, place(0), place(1))), number(2)},
		{by(api.Min, by(api.Minus, place(0), whole(7))), number(-6)},
		{by(api.Max, by(api.IsNull, place(1))), truth(1)},
		{by(api.Min, by(api.IsNull, place(1))), truth(0)},
		{by(api.Max, constant(text("x"))), text("x")},
		// Behind what tells it, no row is asked more.
		{by(api.Count, by(api.Or, yes(), by(api.IsNull, zero()))), number(3)},
		{by(api.Max, by(api.And, by(api.Differ, place(0), whole(1)), by(api.IsSome, by(api.Over, whole(9), by(api.Minus, place(0), whole(1)))))), truth(1)},
	} {
		check(t, groupBy, handed{rows: rows, exprs: exprs(x.e)}, column(x.v), api.OK)
	}
}

// sums: whether Sum is as numbers of any size say, of rows in any order.
func sums(t *testing.T, l ...int) {
	t.Helper()
	whole := new(big.Int)
	for _, n := range l {
		whole.Add(whole, big.NewInt(int64(n)))
	}
	got, code := Group(numbers(l...), nil, exprs(by(api.Sum, place(0))))
	switch {
	case !whole.IsInt64() && (code != api.ErrOver || len(got) > 0):
		t.Errorf("the sum of %s: %s, %d, want ErrOver", brief(l), brief(got), code)
	case whole.IsInt64() && (code != api.OK || !sameRows(got, numbers(int(whole.Int64())))):
		t.Errorf("the sum of %s: %s, %d, want %s", brief(l), brief(got), code, whole)
	}
}

// P12.5: the whole sum has to be a number of 64 bits, its parts alone need not be.
func TestSum(t *testing.T) {
	least, greatest := math.MinInt64, math.MaxInt64
	sum := exprs(by(api.Sum, place(0)))
	for _, l := range [][]int{
		{greatest, 1}, {1, greatest}, {greatest, greatest}, {least, -1}, {-1, least}, {least, least}, {greatest, greatest, least, 2}, {least, least, greatest},
		slices.Repeat([]int{greatest}, api.MaxRows), slices.Repeat([]int{least}, api.MaxRows), {greatest - 1, 1, 1}, {least + 1, -1, -1}, {1 << 62, 1 << 62}, {-1 << 62, -1 << 62, -1},
	} {
		refused(t, groupBy, handed{rows: numbers(l...), exprs: sum}, api.ErrOver)
		sums(t, l...)
	}
	for _, x := range []struct {
		l []int
		n int
	}{
		{[]int{greatest, 1, -1}, greatest}, {[]int{greatest, 5, -9}, greatest - 4}, {[]int{least, -1, 1}, least}, {[]int{least, -7, 9}, least + 2},
		{[]int{greatest, greatest, least, least}, -2}, {[]int{least, least, greatest, greatest}, -2}, {[]int{greatest, greatest, least}, greatest - 1}, {[]int{least, least, greatest, 1}, least},
		{[]int{greatest, least}, -1}, {[]int{greatest - 1, 1}, greatest}, {[]int{least + 1, -1}, least}, {[]int{1 << 62, 1<<62 - 1}, greatest}, {[]int{-1 << 62, -1 << 62}, least},
		{slices.Repeat([]int{greatest, least}, api.MaxRows/2), -api.MaxRows / 2},
		{append(slices.Repeat([]int{greatest}, api.MaxRows/2), slices.Repeat([]int{least}, api.MaxRows/2)...), -api.MaxRows / 2},
		{append(slices.Repeat([]int{least}, api.MaxRows/2), slices.Repeat([]int{greatest}, api.MaxRows/2)...), -api.MaxRows / 2},
	} {
		check(t, groupBy, handed{rows: numbers(x.l...), exprs: sum}, numbers(x.n), api.OK)
		sums(t, x.l...)
	}
}

// P12.5: sums of numbers at the edges, and of half a number, by numbers of any size.
func TestSumOfEdges(t *testing.T) {
	random := rand.New(rand.NewSource(12))
	edges := []int{math.MinInt64, math.MinInt64 + 1, math.MaxInt64, math.MaxInt64 - 1, 0, 1, -1, 1 << 32, 1<<32 - 1, -1 << 32, -1<<32 - 1, 1 << 31, -1 << 31, 1 << 62, -1 << 62, 1<<63 - 1<<32, -1<<63 + 1<<32}
	for _, a := range edges {
		for _, b := range edges {
			sums(t, a, b)
			for _, c := range edges {
				sums(t, a, b, c)
			}
		}
	}
	for range 5000 {
		l := make([]int, random.Intn(api.MaxRows)+1)
		for i := range l {
			l[i] = edges[random.Intn(len(edges))]
			if random.Intn(3) == 0 {
				l[i] = int(random.Uint64()) >> random.Intn(64)
			}
		}
		sums(t, l...)
	}
}

// P12.5: what is refused of a row ends it; of Sum what is no number, as soon as it comes.
func TestGatherRefuses(t *testing.T) {
	over := by(api.Over, whole(1), place(0))
	// A Truth, but where it is refused.
	isOne := by(api.Equal, over, whole(1))
	most := number(math.MaxInt64)
	for _, x := range []struct {
		rows [][]api.Value
		e    api.Expr
		code api.Errno
	}{
		{numbers(0, 1), by(api.Sum, over), api.ErrZero},
		{numbers(1, 0), by(api.Sum, over), api.ErrZero},
		{column(number(1), text(""), number(0)), by(api.Sum, over), api.ErrType},
		{column(number(1), number(0), text("")), by(api.Sum, over), api.ErrZero},
		{numbers(1, 0), by(api.Sum, isOne), api.ErrType},
		{numbers(0, 1), by(api.Sum, isOne), api.ErrZero},
		{column(api.Value{}, number(0), number(1)), by(api.Sum, isOne), api.ErrZero},
		{column(api.Value{}, number(1), number(0)), by(api.Sum, isOne), api.ErrType},
		{column(number(1), text("a")), by(api.Sum, place(0)), api.ErrType},
		{column(truth(0), number(1)), by(api.Sum, place(0)), api.ErrType},
		{column(api.Value{}, truth(1)), by(api.Sum, place(0)), api.ErrType},
		{counted(1), by(api.Sum, yes()), api.ErrType},
		{counted(1), by(api.Sum, constant(text("1"))), api.ErrType},
		// That the sum runs over is told at its end.
		{column(most, most, text("a")), by(api.Sum, place(0)), api.ErrType},
		{column(most, most, truth(0)), by(api.Sum, place(0)), api.ErrType},
		{rowsOf(row(most, number(1)), row(most, number(1)), row(most, number(0))), by(api.Sum, by(api.Plus, place(0), by(api.Rest, whole(1), place(1)))), api.ErrZero},
		{column(number(1), most), by(api.Sum, by(api.Plus, place(0), whole(1))), api.ErrOver},
		{column(most, text("a")), by(api.Sum, by(api.Plus, place(0), whole(1))), api.ErrOver},
	} {
		refused(t, groupBy, handed{rows: x.rows, exprs: exprs(x.e)}, x.code)
	}
	for _, op := range []int{api.Count, api.Min, api.Max} {
		refused(t, groupBy, handed{rows: numbers(0, 1), exprs: exprs(by(op, over))}, api.ErrZero)
		refused(t, groupBy, handed{rows: numbers(1, 2, 0), exprs: exprs(by(op, over))}, api.ErrZero)
		refused(t, groupBy, handed{rows: column(number(1), text(""), number(0)), exprs: exprs(by(op, over))}, api.ErrType)
		refused(t, groupBy, handed{rows: column(number(1), number(0), text("")), exprs: exprs(by(op, over))}, api.ErrZero)
		refused(t, groupBy, handed{rows: column(number(1), number(0)), exprs: exprs(by(op, isOne))}, api.ErrZero)
	}
}

// P12.5: of a group without rows no part is asked.
func TestGatherOfNone(t *testing.T) {
	for _, part := range exprs(zero(), yes(), constant(text("")), place(0), place(math.MaxInt64), by(api.Neg, constant(text(""))), by(api.Plus, place(7), zero())) {
		for _, op := range gatherings() {
			var want api.Value
			if op == api.Count {
				want = number(0)
			}
			check(t, groupBy, handed{exprs: exprs(by(op, part))}, column(want), api.OK)
		}
	}
}

// P12.5: each of the five within an expression.
func TestGatherWithin(t *testing.T) {
	rows := rowsOf(row(number(2), number(10)), row(number(4), api.Value{}), row(number(6), number(30)))
	sum, count, low, high := by(api.Sum, place(0)), by(api.Count, place(1)), by(api.Min, place(0)), by(api.Max, place(1))
	for _, x := range []struct {
		e          api.Expr
		some, none api.Value
	}{
		{by(api.Over, sum, countAll()), number(4), api.Value{}},
		{by(api.Plus, by(api.Times, count, high), low), number(62), api.Value{}},
		{by(api.Neg, countAll()), number(-3), number(0)},
		{by(api.IsNull, sum), truth(0), truth(1)},
		{by(api.IsSome, low), truth(1), truth(0)},
		{by(api.Not, by(api.Equal, countAll(), count)), truth(1), truth(0)},
		{by(api.Less, low, high), truth(1), api.Value{}},
		{by(api.Minus, high, place(1)), number(20), api.Value{}},
		{by(api.Minus, place(0), low), number(0), api.Value{}},
		{by(api.Rest, by(api.Sum, by(api.Plus, place(0), place(1))), whole(7)), number(6), api.Value{}},
		{by(api.And, by(api.Most, count, countAll()), by(api.IsNull, by(api.Max, null()))), truth(1), truth(1)},
		{by(api.Or, by(api.More, count, countAll()), by(api.Least, sum, whole(12))), truth(1), api.Value{}},
		{by(api.Differ, countAll(), countAll()), truth(0), truth(0)},
	} {
		check(t, groupBy, handed{rows: rows, exprs: exprs(x.e)}, column(x.some), api.OK)
		check(t, groupBy, handed{exprs: exprs(x.e)}, column(x.none), api.OK)
	}
	for _, x := range []struct {
		e    api.Expr
		code api.Errno
	}{
		{by(api.Over, whole(1), by(api.Minus, countAll(), whole(3))), api.ErrZero},
		{by(api.Times, countAll(), whole(math.MaxInt64)), api.ErrOver},
		{by(api.Not, count), api.ErrType},
		{by(api.Equal, sum, constant(text("12"))), api.ErrType},
		{by(api.Plus, by(api.Sum, yes()), by(api.Neg, whole(math.MinInt64))), api.ErrType},
		{by(api.Plus, by(api.Neg, whole(math.MinInt64)), by(api.Sum, yes())), api.ErrOver},
	} {
		refused(t, groupBy, handed{rows: rows, exprs: exprs(x.e)}, x.code)
	}
}

// sumOf: the sum of values, by numbers of any size.
func sumOf(l []api.Value) (api.Value, api.Errno) {
	whole := new(big.Int)
	for _, v := range l {
		whole.Add(whole, big.NewInt(int64(v.Int)))
	}
	if !whole.IsInt64() {
		return api.Value{}, api.ErrOver
	}
	return number(int(whole.Int64())), api.OK
}

// wanted: what one of CountAll to Max is to come to.
func wanted(rows [][]api.Value, e api.Expr) (api.Value, api.Errno) {
	if e.Op == api.CountAll {
		return number(len(rows)), api.OK
	}
	var l []api.Value
	for _, r := range rows {
		v, code := eval.Eval(e.Subs[0], r)
		if code != api.OK {
			return api.Value{}, code
		}
		if e.Op == api.Sum && (v.Kind == api.Truth || v.Kind == api.Text) {
			return api.Value{}, api.ErrType
		}
		if v.Kind != api.Null {
			l = append(l, v)
		}
	}
	if e.Op == api.Count {
		return number(len(l)), api.OK
	}
	if len(l) == 0 {
		return api.Value{}, api.OK
	}
	if e.Op == api.Sum {
		return sumOf(l)
	}
	slices.SortFunc(l, func(a, b api.Value) int {
		n, _ := value.Order(a, b)
		return n
	})
	if e.Op == api.Min {
		return l[0], api.OK
	}
	return l[len(l)-1], api.OK
}

// refusing: an expression of which that is refused, no deeper than one of Count to Max.
func refusing(code api.Errno) api.Expr {
	switch code {
	case api.ErrZero:
		return zero()
	case api.ErrOver:
		return by(api.Neg, whole(math.MinInt64))
	case api.ErrType:
		return by(api.Not, whole(1))
	}
	panic(fmt.Sprintf("no expression is refused so: %d", code))
}

// plain: an item with what each of CountAll to Max in it comes to, or is refused, in its place, so that Eval tells the rest.
func plain(rows [][]api.Value, e api.Expr) api.Expr {
	if e.Op >= api.CountAll {
		v, code := wanted(rows, e)
		if code != api.OK {
			return refusing(code)
		}
		return constant(v)
	}
	subs := e.Subs
	e.Subs = nil
	for _, sub := range subs {
		e.Subs = append(e.Subs, plain(rows, sub))
	}
	return e
}

// someExpr: an expression of rows of three values; most says up to which Op there may be.
func someExpr(random *rand.Rand, depth, most int) api.Expr {
	if depth == 1 || random.Intn(5) == 0 {
		switch random.Intn(5) {
		case 0:
			values := ascending()
			return constant(values[random.Intn(len(values))])
		case 1:
			return whole(random.Intn(3))
		case 2:
			if most == api.Max {
				return countAll()
			}
		}
		return place(random.Intn(3))
	}
	op := api.Neg + random.Intn(most+1-api.Neg)
	if random.Intn(2) == 0 {
		op = api.Plus + random.Intn(most+1-api.Plus)
	}
	switch {
	case op == api.CountAll:
		return countAll()
	case op > api.CountAll:
		return by(op, someExpr(random, depth-1, api.Or))
	case op >= api.Plus:
		return by(op, someExpr(random, depth-1, most), someExpr(random, depth-1, most))
	}
	return by(op, someExpr(random, depth-1, most))
}

// P12.5: items of all sorts, held against what Eval says of them.
func TestItemsAsEval(t *testing.T) {
	random := rand.New(rand.NewSource(12))
	seen := map[api.Errno]int{}
	for range 40000 {
		rows := someRows(random, 1+random.Intn(5), 3)
		for _, r := range rows {
			if random.Intn(6) == 0 {
				values := ascending()
				r[random.Intn(3)] = values[random.Intn(len(values))]
			}
		}
		e := someExpr(random, 2+random.Intn(4), api.Max)
		v, want := eval.Eval(plain(rows, e), rows[0])
		got, code := Group(rows, nil, exprs(e))
		if code != want || code == api.OK && !sameRows(got, column(v)) || code != api.OK && len(got) > 0 {
			t.Fatalf("%s of %s: %s, %d; want %v, %d", brief(e), brief(rows), brief(got), code, v, want)
		}
		seen[code]++
	}
	if seen[api.OK] < 5000 || seen[api.ErrType] < 5000 || seen[api.ErrZero] < 500 || seen[api.ErrOver] < 100 || seen[api.ErrForm] > 0 {
		t.Errorf("how often each came: %v", seen)
	}
}

// P12.5: of a group without rows an item is as of a row of Nulls, but for what asks all rows.
func TestItemsOfNone(t *testing.T) {
	random := rand.New(rand.NewSource(12))
	for range 20000 {
		e := someExpr(random, 1+random.Intn(5), api.Max)
		v, want := eval.Eval(plain(nil, e), make([]api.Value, 3))
		got, code := Group(nil, nil, exprs(e))
		if code != want || code == api.OK && !sameRows(got, column(v)) || code != api.OK && len(got) > 0 {
			t.Fatalf("%s of no rows: %s, %d; want %v, %d", brief(e), brief(got), code, v, want)
		}
	}
}
