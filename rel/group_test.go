package rel

import (
	"math"
	"math/rand"
	"slices"
	"testing"

	"commonhold/api"
)

func countAll() api.Expr { return by(api.CountAll) }

// P12.5: which rows are a group, and in which order groups stand.
func TestGroup(t *testing.T) {
	one, two, x, y := number(1), number(2), text("x"), text("y")
	rows := rowsOf(row(two, y), row(one, y), row(two, x), row(api.Value{}, x), row(two, y), row(one, x))
	for _, c := range []struct {
		groups []int
		items  []api.Expr
		want   [][]api.Value
	}{
		{nil, exprs(countAll()), numbers(6)},
		{[]int{}, exprs(place(0), place(1)), rowsOf(row(two, y))},
		{nil, nil, rowsOf(nil)},
		{[]int{0}, nil, rowsOf(nil, nil, nil)},
		{[]int{0}, exprs(place(0), countAll()), rowsOf(row(api.Value{}, one), row(one, two), row(two, number(3)))},
		{[]int{1}, exprs(place(1), countAll()), rowsOf(row(x, number(3)), row(y, number(3)))},
		{[]int{0, 1}, exprs(place(0), place(1), countAll()), rowsOf(row(api.Value{}, x, one), row(one, x, one), row(one, y, one), row(two, x, one), row(two, y, two))},
		{[]int{1, 0}, exprs(place(0), place(1), countAll()), rowsOf(row(api.Value{}, x, one), row(one, x, one), row(two, x, one), row(one, y, one), row(two, y, two))},
		{[]int{0, 0}, exprs(place(0), countAll()), rowsOf(row(api.Value{}, one), row(one, two), row(two, number(3)))},
		{[]int{1, 0, 1, 1}, exprs(place(0), place(1)), rowsOf(row(api.Value{}, x), row(one, x), row(two, x), row(one, y), row(two, y))},
		// A place outside of the groups is that of the row that stood first.
		{[]int{0}, exprs(place(1), place(0)), rowsOf(row(x, api.Value{}), row(y, one), row(y, two))},
		{[]int{1}, exprs(place(0)), column(two, two)},
		{nil, exprs(place(1), place(0), whole(7)), rowsOf(row(y, two, number(7)))},
	} {
		check(t, groupBy, handed{rows: rows, groups: c.groups, exprs: c.items}, c.want, api.OK)
	}
}

// P12.5: without groups all rows are one, even if there are none; with groups there are none of no rows.
func TestGroupOfNone(t *testing.T) {
	for _, rows := range [][][]api.Value{nil, {}} {
		check(t, groupBy, handed{rows: rows}, rowsOf(nil), api.OK)
		check(t, groupBy, handed{rows: rows, exprs: exprs(countAll(), whole(3))}, rowsOf(row(number(0), number(3))), api.OK)
		for _, groups := range [][]int{{0}, {99}, {0, 0}, {5, math.MaxInt64}} {
			for _, items := range [][]api.Expr{nil, exprs(countAll()), exprs(place(0)), exprs(zero()), exprs(place(-1)), exprs(api.Expr{}), exprs(by(api.Count))} {
				check(t, groupBy, handed{rows: rows, groups: groups, exprs: items}, nil, api.OK)
			}
		}
	}
	for n := range 4 {
		check(t, groupBy, handed{rows: make([][]api.Value, n), exprs: exprs(countAll())}, numbers(n), api.OK)
		check(t, groupBy, handed{rows: make([][]api.Value, n)}, rowsOf(nil), api.OK)
	}
}

// P12.5: which places there are.
func TestGroupPlaces(t *testing.T) {
	rows := rowsOf(row(number(1), number(2)), row(number(2), number(2)))
	refusals := [][]api.Expr{nil, exprs(countAll()), exprs(zero()), exprs(place(9)), exprs(api.Expr{Op: 99})}
	for _, items := range refusals {
		for _, n := range []int{-1, math.MinInt64, 2, 3, math.MaxInt64, 1 << 32, 1<<32 + 1} {
			for _, groups := range [][]int{{n}, {0, n}, {n, 1}, {0, 1, 0, n, 1}} {
				refused(t, groupBy, handed{rows: rows, groups: groups, exprs: items}, api.ErrRange)
				refused(t, groupBy, handed{rows: rows[:1], groups: groups, exprs: items}, api.ErrRange)
				refused(t, groupBy, handed{rows: make([][]api.Value, 2), groups: groups, exprs: items}, api.ErrRange)
			}
		}
		for _, n := range []int{-1, -2, math.MinInt64} {
			refused(t, groupBy, handed{groups: []int{n}, exprs: items}, api.ErrRange)
			refused(t, groupBy, handed{groups: []int{0, 99, n}, exprs: items}, api.ErrRange)
		}
		refused(t, groupBy, handed{rows: make([][]api.Value, 1), groups: []int{0}, exprs: items}, api.ErrRange)
	}
	check(t, groupBy, handed{rows: rows, groups: []int{1}, exprs: exprs(countAll())}, numbers(2), api.OK)
	check(t, groupBy, handed{rows: rows, groups: []int{0}, exprs: exprs(countAll())}, numbers(1, 1), api.OK)
}

// P12.5: values of each Kind as groups, Null among them, in their order.
func TestGroupByEachKind(t *testing.T) {
	random := rand.New(rand.NewSource(12))
	for range 30 {
		var rows, want [][]api.Value
		for _, v := range ascending() {
			n := 1 + random.Intn(4)
			for range n {
				rows = append(rows, row(v))
			}
			want = append(want, row(v, number(n)))
		}
		random.Shuffle(len(rows), func(i, j int) { rows[i], rows[j] = rows[j], rows[i] })
		check(t, groupBy, handed{rows: rows, groups: []int{0}, exprs: exprs(place(0), countAll())}, want, api.OK)
	}
}

// P12.5: MaxRows groups, and MaxRows rows in one; the first row of a group is the one that stood first.
func TestGroupOfMany(t *testing.T) {
	most := api.MaxRows
	backward := counted(most)
	slices.Reverse(backward)
	check(t, groupBy, handed{rows: backward, groups: []int{0}, exprs: exprs(place(0))}, counted(most), api.OK)
	check(t, groupBy, handed{rows: backward, exprs: exprs(place(0), countAll())}, rowsOf(row(number(most-1), number(most))), api.OK)
	for _, n := range []int{2, 13, 50, most} {
		var rows [][]api.Value
		for i := range n {
			rows = append(rows, row(truth(i%2), number(i)))
		}
		want := rowsOf(row(number(0), number((n+1)/2)), row(number(1), number(n/2)))
		check(t, groupBy, handed{rows: rows, groups: []int{0}, exprs: exprs(place(1), countAll())}, want, api.OK)
		slices.Reverse(rows)
		first := func(truth int) api.Value { return number(n - 1 - (n-1+truth)%2) }
		want = rowsOf(row(first(0)), row(first(1)))
		check(t, groupBy, handed{rows: rows, groups: []int{0}, exprs: exprs(place(1))}, want, api.OK)
	}
}

// P12.5: group by group, item by item.
func TestGroupRefusesInOrder(t *testing.T) {
	over := by(api.Over, whole(1), place(0))
	neg := by(api.Neg, place(1))
	n, m, s, z := number(1), number(2), text("a"), number(0)
	form := place(2)
	for _, x := range []struct {
		rows   [][]api.Value
		groups []int
		items  []api.Expr
		code   api.Errno
	}{
		{rowsOf(row(z, s)), nil, exprs(over, neg), api.ErrZero},
		{rowsOf(row(z, s)), nil, exprs(neg, over), api.ErrType},
		{rowsOf(row(z, s)), nil, exprs(over, form), api.ErrZero},
		{rowsOf(row(z, s)), nil, exprs(form, over), api.ErrForm},
		{rowsOf(row(z, s)), nil, exprs(countAll(), form, neg), api.ErrForm},
		{rowsOf(row(n, n)), nil, exprs(countAll(), yes(), form), api.ErrForm},
		// The groups are 0, then 1, however their rows stood.
		{rowsOf(row(n, s), row(z, n)), []int{0}, exprs(over, neg), api.ErrZero},
		{rowsOf(row(z, n), row(n, s)), []int{0}, exprs(neg, over), api.ErrZero},
		{rowsOf(row(n, n), row(z, s)), []int{0}, exprs(neg, over), api.ErrType},
		{rowsOf(row(n, n), row(z, n)), []int{0}, exprs(neg, form, over), api.ErrForm},
		{rowsOf(row(n, s), row(number(-1), n)), []int{0}, exprs(over, neg), api.ErrType},
		{rowsOf(row(n, n), row(m, s)), []int{0}, exprs(over, neg), api.ErrType},
		{rowsOf(row(n, n), row(m, s)), []int{0}, exprs(over, neg, form), api.ErrForm},
		{rowsOf(row(m, s), row(n, n)), []int{0}, exprs(neg), api.ErrType},
		// The second row of a group is not asked, but by what asks all of them.
		{rowsOf(row(n, n), row(z, s)), nil, exprs(over, by(api.Sum, neg)), api.ErrType},
		{rowsOf(row(n, n), row(z, s)), nil, exprs(neg, by(api.Max, over)), api.ErrZero},
		{rowsOf(row(n, n), row(z, s)), nil, exprs(by(api.Max, over), by(api.Sum, neg)), api.ErrZero},
		{rowsOf(row(n, n), row(z, s)), nil, exprs(by(api.Sum, neg), by(api.Max, over)), api.ErrType},
		{rowsOf(row(n, n), row(z, s)), nil, exprs(by(api.Plus, by(api.Count, over), by(api.Sum, neg))), api.ErrZero},
		{rowsOf(row(n, n), row(z, s)), nil, exprs(by(api.Plus, by(api.Sum, neg), by(api.Count, over))), api.ErrType},
		{rowsOf(row(n, n), row(z, s)), nil, exprs(by(api.Plus, yes(), by(api.Count, over))), api.ErrZero},
	} {
		refused(t, groupBy, handed{rows: x.rows, groups: x.groups, exprs: x.items}, x.code)
	}
	check(t, groupBy, handed{rows: rowsOf(row(n, n), row(z, s)), exprs: exprs(over, neg)}, rowsOf(row(number(1), number(-1))), api.OK)
}

// What comes of it: the counts of groups make the count of all.
func TestGroupCountsMakeTheCount(t *testing.T) {
	random := rand.New(rand.NewSource(12))
	for range 100 {
		rows := someRows(random, random.Intn(60), 3)
		var groups []int
		for range 1 + random.Intn(3) {
			groups = append(groups, random.Intn(3))
		}
		counts, code := Group(rows, groups, exprs(countAll(), by(api.Count, place(1))))
		if code != api.OK {
			t.Fatalf("refused: %d", code)
		}
		all, some := 0, 0
		for _, r := range counts {
			all, some = all+r[0].Int, some+r[1].Int
		}
		check(t, groupBy, handed{rows: rows, exprs: exprs(countAll(), by(api.Count, place(1)))}, rowsOf(row(number(all), number(some))), api.OK)
	}
}
