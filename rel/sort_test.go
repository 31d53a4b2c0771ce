package rel

import (
	"math"
	"math/rand"
	"slices"
	"testing"

	"commonhold/api"
)

func orders(l ...api.Order) []api.Order { return l }

func up(item int) api.Order { return api.Order{Item: item} }

func down(item int) api.Order { return api.Order{Item: item, Down: true} }

// P12.6
func TestSort(t *testing.T) {
	a, b, c, d, e := row(number(2), text("b")), row(number(1), text("b")), row(number(2), text("a")), row(api.Value{}, text("c")), row(number(1), text("b"))
	rows := rowsOf(a, b, c, d, e)
	for _, x := range []struct {
		orders []api.Order
		want   [][]api.Value
	}{
		{nil, rows},
		{orders(), rows},
		{orders(up(1)), rowsOf(d, b, e, a, c)},
		{orders(down(1)), rowsOf(a, c, b, e, d)},
		{orders(up(2)), rowsOf(c, a, b, e, d)},
		{orders(down(2)), rowsOf(d, a, b, e, c)},
		{orders(up(1), up(2)), rowsOf(d, b, e, c, a)},
		{orders(up(1), down(2)), rowsOf(d, b, e, a, c)},
		{orders(down(1), up(2)), rowsOf(c, a, b, e, d)},
		{orders(up(2), up(1)), rowsOf(c, b, e, a, d)},
		{orders(down(2), up(1)), rowsOf(d, b, e, a, c)},
		{orders(up(1), down(1)), rowsOf(d, b, e, a, c)},
		{orders(down(1), up(1), down(2)), rowsOf(a, c, b, e, d)},
	} {
		check(t, sorts, handed{rows: rows, orders: x.orders}, x.want, api.OK)
	}
	for _, rows := range rightRows() {
		check(t, sorts, handed{rows: rows}, rows, api.OK)
	}
}

// P12.6: values of each Kind, and Null.
func TestSortOfEachKind(t *testing.T) {
	random := rand.New(rand.NewSource(12))
	upward := column(ascending()...)
	downward := slices.Clone(upward)
	slices.Reverse(downward)
	for range 50 {
		rows := slices.Clone(upward)
		random.Shuffle(len(rows), func(i, j int) { rows[i], rows[j] = rows[j], rows[i] })
		check(t, sorts, handed{rows: rows, orders: orders(up(1))}, upward, api.OK)
		check(t, sorts, handed{rows: rows, orders: orders(down(1))}, downward, api.OK)
	}
}

// P12.6: what is the same stays as it stood, upward and downward, of few rows and of many.
func TestSortKeepsWhatIsTheSame(t *testing.T) {
	for _, n := range []int{2, 3, 12, 13, 50, api.MaxRows} {
		var rows [][]api.Value
		for i := range n {
			rows = append(rows, row(number(i*7%3), number(i)))
		}
		var upward, downward [][]api.Value
		for k := range 3 {
			for _, r := range rows {
				if r[0].Int == k {
					upward = append(upward, r)
				}
				if r[0].Int == 2-k {
					downward = append(downward, r)
				}
			}
		}
		check(t, sorts, handed{rows: rows, orders: orders(up(1))}, upward, api.OK)
		check(t, sorts, handed{rows: rows, orders: orders(down(1))}, downward, api.OK)
		check(t, sorts, handed{rows: rows, orders: orders(up(1), down(2), up(1))}, reversedWithin(upward), api.OK)
	}
}

// reversedWithin: each run of rows with one first value the other way round.
func reversedWithin(rows [][]api.Value) [][]api.Value {
	rows = slices.Clone(rows)
	for low := 0; low < len(rows); {
		high := low
		for high < len(rows) && rows[high][0] == rows[low][0] {
			high++
		}
		slices.Reverse(rows[low:high])
		low = high
	}
	return rows
}

// P12.6: which items there are.
func TestSortItems(t *testing.T) {
	rows := rowsOf(row(number(1), number(2)), row(number(3), number(1)))
	for _, n := range []int{0, -1, 3, 4, math.MaxInt64, math.MinInt64, math.MinInt64 + 1, 1 << 32, 1<<32 + 1} {
		for _, isDown := range []bool{false, true} {
			o := api.Order{Item: n, Down: isDown}
			refused(t, sorts, handed{rows: rows, orders: orders(o)}, api.ErrRange)
			refused(t, sorts, handed{rows: rows[:1], orders: orders(o)}, api.ErrRange)
			refused(t, sorts, handed{rows: rows, orders: orders(up(1), o)}, api.ErrRange)
			refused(t, sorts, handed{rows: rows, orders: orders(o, down(2))}, api.ErrRange)
			refused(t, sorts, handed{rows: rows, orders: orders(up(1), up(2), up(1), o, up(2))}, api.ErrRange)
		}
	}
	check(t, sorts, handed{rows: rows, orders: orders(up(2))}, rowsOf(rows[1], rows[0]), api.OK)
	check(t, sorts, handed{rows: rows, orders: orders(up(1))}, rows, api.OK)
}

// P12.6: where there are no rows, any item from 1 on may be; of rows without values, none.
func TestSortOfNone(t *testing.T) {
	for _, n := range []int{1, 2, 99, math.MaxInt64} {
		check(t, sorts, handed{orders: orders(up(n))}, nil, api.OK)
		check(t, sorts, handed{rows: [][]api.Value{}, orders: orders(up(1), down(n))}, nil, api.OK)
		refused(t, sorts, handed{rows: rowsOf(nil), orders: orders(up(n))}, api.ErrRange)
		refused(t, sorts, handed{rows: rowsOf(nil, nil), orders: orders(down(n))}, api.ErrRange)
	}
	for _, n := range []int{0, -1, math.MinInt64} {
		refused(t, sorts, handed{orders: orders(up(n))}, api.ErrRange)
		refused(t, sorts, handed{orders: orders(up(1), down(n))}, api.ErrRange)
		refused(t, sorts, handed{rows: rowsOf(nil), orders: orders(up(n))}, api.ErrRange)
	}
	check(t, sorts, handed{rows: rowsOf(nil, nil)}, rowsOf(nil, nil), api.OK)
}

// P12.6: by one order behind the other, the last one first, it comes to the same.
func TestSortByOneOrderAtATime(t *testing.T) {
	random := rand.New(rand.NewSource(12))
	for range 100 {
		rows := someRows(random, random.Intn(40), 3)
		var l []api.Order
		for range random.Intn(4) {
			l = append(l, api.Order{Item: 1 + random.Intn(3), Down: random.Intn(2) == 0})
		}
		want := rows
		for _, o := range slices.Backward(l) {
			want = insertedBy(want, o)
		}
		check(t, sorts, handed{rows: rows, orders: l}, want, api.OK)
	}
}

// insertedBy: rows of numbers and Nulls by one order, each put behind all that are not behind it.
func insertedBy(rows [][]api.Value, o api.Order) [][]api.Value {
	rank := func(r []api.Value) int {
		v := r[o.Item-1]
		n := v.Int
		if v.Kind == api.Null {
			n = -1000
		}
		if o.Down {
			n = -n
		}
		return n
	}
	var l [][]api.Value
	for _, r := range rows {
		at := len(l)
		for at > 0 && rank(l[at-1]) > rank(r) {
			at--
		}
		l = slices.Insert(l, at, r)
	}
	return l
}
