package rel

import (
	"cmp"
	"fmt"
	"math"
	"reflect"
	"slices"
	"strings"
	"testing"

	"commonhold/api"
)

func truth(i int) api.Value { return api.Value{Kind: api.Truth, Int: i} }

func number(i int) api.Value { return api.Value{Kind: api.Int, Int: i} }

func text(s string) api.Value { return api.Value{Kind: api.Text, Text: s} }

func constant(v api.Value) api.Expr { return api.Expr{Op: api.Const, Value: v} }

func null() api.Expr { return constant(api.Value{}) }

func yes() api.Expr { return constant(truth(1)) }

func no() api.Expr { return constant(truth(0)) }

func whole(i int) api.Expr { return constant(number(i)) }

func place(i int) api.Expr { return api.Expr{Op: api.Place, Place: i} }

func by(op int, subs ...api.Expr) api.Expr { return api.Expr{Op: op, Subs: subs} }

func exprs(l ...api.Expr) []api.Expr { return l }

func row(l ...api.Value) []api.Value { return l }

func rowsOf(l ...[]api.Value) [][]api.Value { return l }

// column: rows of one value.
func column(l ...api.Value) [][]api.Value {
	var rows [][]api.Value
	for _, v := range l {
		rows = append(rows, row(v))
	}
	return rows
}

// numbers: rows of one number.
func numbers(l ...int) [][]api.Value {
	var rows [][]api.Value
	for _, n := range l {
		rows = append(rows, row(number(n)))
	}
	return rows
}

// counted: rows of one number, from 0 on.
func counted(n int) [][]api.Value {
	var rows [][]api.Value
	for i := range n {
		rows = append(rows, row(number(i)))
	}
	return rows
}

// ascending: values that may be, of each Kind, in their order.
func ascending() []api.Value {
	return []api.Value{
		{}, truth(0), truth(1),
		number(math.MinInt64), number(math.MinInt64 + 1), number(-10), number(-2), number(-1), number(0), number(1), number(2), number(10), number(math.MaxInt64 - 1), number(math.MaxInt64),
		text(""), text("-1"), text("0"), text("10"), text("2"), text("A"), text("a"), text("a\x00"), text(strings.Repeat("a", api.MaxText)), text("ab"), text("b"), text("é"),
	}
}

// wrongs: values that may not be.
func wrongs() []api.Value {
	return []api.Value{
		{Kind: -1}, {Kind: 4}, {Kind: math.MaxInt64}, {Kind: math.MinInt64, Int: 1, Text: "\xff"},
		text(strings.Repeat("a", api.MaxText+1)), {Text: strings.Repeat("\xff", 1<<12)},
		truth(2), truth(-1), {Int: 1}, {Text: "a"}, {Kind: api.Int, Text: "a"}, {Kind: api.Truth, Text: "a"}, {Kind: api.Text, Int: 1}, text("\xff"),
	}
}

// wrongRows: rows that may not be. Nothing could be refused of the first row of most of them.
func wrongRows() [][][]api.Value {
	n := number(1)
	l := [][][]api.Value{
		counted(api.MaxRows + 1), make([][]api.Value, api.MaxRows+1), slices.Repeat(rowsOf(row()), api.MaxRows+1), counted(4 * api.MaxRows),
		rowsOf(row(n), row(n, n)), rowsOf(row(n, n), row(n)), rowsOf(row(), row(n)), rowsOf(row(n), row()), rowsOf(row(n), nil), rowsOf(nil, row(n)),
		rowsOf(row(n), row(n), row(n, n)), rowsOf(row(n, n), row(n), row(n, n)), append(counted(api.MaxRows-1), row(n, n)),
	}
	for _, v := range wrongs() {
		l = append(l,
			column(v), column(n, v), column(v, n), rowsOf(row(v, n, n), row(n, n, n)), rowsOf(row(n, n, v), row(n, n, n)),
			rowsOf(row(n, n), row(v, n)), rowsOf(row(n, n), row(n, v)), rowsOf(row(n, n), row(n, v), row(n, n)), append(counted(api.MaxRows-1), row(v)),
		)
	}
	return l
}

// rightRows: rows that may be.
func rightRows() [][][]api.Value {
	return [][][]api.Value{
		nil, {}, {nil}, {{}}, {nil, {}}, make([][]api.Value, api.MaxRows), counted(1), counted(api.MaxRows - 1), counted(api.MaxRows),
		column(ascending()...), rowsOf(ascending()), rowsOf(ascending(), ascending(), make([]api.Value, len(ascending()))), {make([]api.Value, 1000)},
	}
}

// handed: what a call is given.
type handed struct {
	rows, other [][]api.Value
	exprs       []api.Expr
	groups      []int
	orders      []api.Order
}

// caller: one of the calls that answer rows. Of more than one expression Filter is asked the first one.
type caller func(in handed) ([][]api.Value, api.Errno)

func filter(in handed) ([][]api.Value, api.Errno) { return Filter(in.rows, in.exprs[0]) }

func join(in handed) ([][]api.Value, api.Errno) { return Join(in.rows, in.other, in.exprs) }

func project(in handed) ([][]api.Value, api.Errno) { return Project(in.rows, in.exprs) }

func groupBy(in handed) ([][]api.Value, api.Errno) { return Group(in.rows, in.groups, in.exprs) }

func sorts(in handed) ([][]api.Value, api.Errno) { return Sort(in.rows, in.orders) }

// brief: what is told of something, as a text that is not too long.
func brief(x any) string {
	text := fmt.Sprintf("%+v", x)
	if len(text) > 700 {
		return text[:700] + ".."
	}
	return text
}

// sameRows: a list without elements may be nil or not.
func sameRows(a, b [][]api.Value) bool {
	return slices.EqualFunc(a, b, func(x, y []api.Value) bool { return slices.Equal(x, y) })
}

// roomy: a copy of a list, with spare room behind it in which something stands.
func roomy[T any](l []T, spare T) []T {
	kept := make([]T, len(l)+3)
	copy(kept, l)
	for i := len(l); i < len(kept); i++ {
		kept[i] = spare
	}
	return kept[:len(l)]
}

func roomyRows(rows [][]api.Value) [][]api.Value {
	rows = roomy(rows, row(number(77)))
	for i, r := range rows {
		rows[i] = roomy(r, number(77))
	}
	return rows
}

// roomyExprs: a copy whose lists share nothing, and have spare room. What stands there could be asked, too.
func roomyExprs(l []api.Expr) []api.Expr {
	l = roomy(l, yes())
	for i, e := range l {
		l[i].Subs = roomyExprs(e.Subs)
	}
	return l
}

// roomyHanded: the same, all of whose lists share nothing, and have spare room.
func roomyHanded(in handed) handed {
	return handed{rows: roomyRows(in.rows), other: roomyRows(in.other), exprs: roomyExprs(in.exprs), groups: roomy(in.groups, 0), orders: roomy(in.orders, api.Order{Item: 1})}
}

// told: all that can be reached from something, the spare room of its lists, too, as a text.
func told(v reflect.Value) string {
	var b strings.Builder
	switch v.Kind() {
	case reflect.Slice:
		for i := range v.Cap() {
			fmt.Fprintf(&b, "%d: %s, ", i, told(v.Slice(0, v.Cap()).Index(i)))
		}
		return fmt.Sprintf("[%d of %s]", v.Len(), b.String())
	case reflect.Struct:
		for i := range v.NumField() {
			fmt.Fprintf(&b, "%s, ", told(v.Field(i)))
		}
		return "{" + b.String() + "}"
	}
	return fmt.Sprintf("%#v", v)
}

func toldOf(x any) string { return told(reflect.ValueOf(x)) }

// stretch: where the memory of a list begins and ends, its spare room counted.
type stretch struct{ low, high uintptr }

// stretches: those of all lists in something, by where they begin.
func stretches(x any) []stretch {
	var l []stretch
	var note func(v reflect.Value)
	note = func(v reflect.Value) {
		switch v.Kind() {
		case reflect.Slice:
			if v.Cap() > 0 {
				l = append(l, stretch{v.Pointer(), v.Pointer() + uintptr(v.Cap())*v.Type().Elem().Size()})
			}
			for i := range v.Len() {
				note(v.Index(i))
			}
		case reflect.Struct:
			for i := range v.NumField() {
				note(v.Field(i))
			}
		}
	}
	note(reflect.ValueOf(x))
	slices.SortFunc(l, func(a, b stretch) int { return cmp.Compare(a.low, b.low) })
	return l
}

// sharing: whether two lists of something have memory in common.
func sharing(x any) bool {
	l := stretches(x)
	for i := 1; i < len(l); i++ {
		if l[i-1].high > l[i].low {
			return true
		}
	}
	return false
}

// sharingWith: whether an answer, no two lists of which share any, has memory in common with something, whose lists may.
func sharingWith(answer, other any) bool {
	mine := stretches(answer)
	return slices.ContainsFunc(stretches(other), func(s stretch) bool {
		// Of the lists of the answer that begin ahead of its end the last one is the last to end, too.
		n, _ := slices.BinarySearchFunc(mine, s.high, func(m stretch, high uintptr) int { return cmp.Compare(m.low, high) })
		return n > 0 && mine[n-1].high > s.low
	})
}

// The checks themselves find what they are there for.
func TestChecksFindSharing(t *testing.T) {
	l := row(number(1), number(2), number(3))
	for _, rows := range [][][]api.Value{{l, l}, {l[:1], l[1:]}, {l[:0], l[2:]}, {l[1:2], {}, l[2:]}} {
		if !sharing(rows) {
			t.Errorf("%s shares memory", brief(rows))
		}
	}
	if sharing(rowsOf(l[:1:1], l[1:], nil, row())) || sharing(rowsOf(l, slices.Clone(l))) {
		t.Error("sharing tells other things")
	}
	if !sharingWith(rowsOf(l[1:]), handed{rows: rowsOf(l[:2])}) || !sharingWith(rowsOf(l[:0]), handed{other: rowsOf(nil, l[2:])}) || sharingWith(rowsOf(l[:1:1]), handed{rows: rowsOf(l[1:])}) || sharingWith(rowsOf(l), handed{}) {
		t.Error("sharingWith tells other things")
	}
	if !sameRows(rowsOf(nil, nil), rowsOf(row(), nil)) || sameRows(rowsOf(nil), nil) || sameRows(rowsOf(l), rowsOf(l[:2])) || sameRows(column(number(1)), column(truth(1))) {
		t.Error("sameRows tells other things")
	}
	in := roomyHanded(handed{rows: rowsOf(l), exprs: exprs(by(api.Not, yes())), orders: []api.Order{{Item: 2}}})
	for i, change := range []func(){
		func() { in.rows[0][:4][3].Int++ }, func() { in.rows[:2][1] = nil }, func() { in.rows[0][1].Text = "x" }, func() { in.exprs[0].Subs[:2][1].Place = 7 }, func() { in.groups[:1][0]++ }, func() { in.orders[0].Down = true },
	} {
		kept := toldOf(in)
		if change(); toldOf(in) == kept {
			t.Errorf("change %d: %s is as it was", i, kept)
		}
	}
}

// check: what a call answers, with spare room and without; what was handed in stays, and nothing of it is shared.
func check(t *testing.T, call caller, in handed, want [][]api.Value, code api.Errno) {
	t.Helper()
	for _, x := range []handed{in, roomyHanded(in)} {
		kept := toldOf(x)
		got, e := call(x)
		if e != code || !sameRows(got, want) {
			t.Errorf("%s: %s, %d; want %s, %d", brief(in), brief(got), e, brief(want), code)
		}
		if toldOf(x) != kept {
			t.Errorf("%s is now %s", brief(in), brief(x))
		}
		again, _ := call(x)
		if sharing(got) || sharingWith(got, x) || sharingWith(got, again) {
			t.Errorf("%s: %s shares memory", brief(in), brief(got))
		}
	}
}

// refused: with an error nothing else is answered.
func refused(t *testing.T, call caller, in handed, code api.Errno) {
	t.Helper()
	check(t, call, in, nil, code)
}

// P12.1
func TestMay(t *testing.T) {
	for _, rows := range rightRows() {
		kept := roomyRows(rows)
		if was := toldOf(kept); !May(rows) || !May(kept) || toldOf(kept) != was {
			t.Errorf("May(%s): it may not be, or is changed", brief(rows))
		}
	}
	for _, rows := range wrongRows() {
		kept := roomyRows(rows)
		if was := toldOf(kept); May(rows) || May(kept) || toldOf(kept) != was {
			t.Errorf("May(%s): it may be, or is changed", brief(rows))
		}
	}
}

// P12.1: each value at each place of rows.
func TestMayOfEachPlace(t *testing.T) {
	for _, v := range append(wrongs(), ascending()...) {
		want := slices.Contains(ascending(), v)
		for i := range 3 {
			for j := range 4 {
				rows := rowsOf(make([]api.Value, 4), make([]api.Value, 4), make([]api.Value, 4))
				rows[i][j] = v
				if May(rows) != want {
					t.Errorf("May(%s): %t", brief(rows), !want)
				}
			}
		}
	}
}

// zero: an expression that is refused of every row.
func zero() api.Expr { return by(api.Over, whole(1), whole(0)) }

// P12.1: what may not be is refused ahead of all else.
func TestWrongRowsAreRefusedFirst(t *testing.T) {
	asked := [][]api.Expr{nil, exprs(zero()), exprs(by(api.Not, whole(1))), exprs(yes(), place(-1)), exprs(no()), exprs(by(api.Sum, zero()))}
	others := [][][]api.Value{nil, {{}}, numbers(1, 2), counted(api.MaxRows)}
	items := []int{-1, 0, 1, 2, 99, math.MaxInt64, math.MinInt64}
	for _, rows := range wrongRows() {
		formless := func(call caller, in handed) {
			t.Helper()
			if got, code := call(in); code != api.ErrForm || len(got) > 0 {
				t.Errorf("%s: %s, %d", brief(in), brief(got), code)
			}
		}
		for _, l := range asked {
			formless(filter, handed{rows: rows, exprs: append(l, api.Expr{})})
			formless(project, handed{rows: rows, exprs: l})
			for _, other := range append(others, rows) {
				formless(join, handed{rows: rows, other: other, exprs: l})
				formless(join, handed{rows: other, other: rows, exprs: l})
			}
			for _, n := range items {
				formless(groupBy, handed{rows: rows, groups: []int{n}, exprs: l})
			}
			formless(groupBy, handed{rows: rows, exprs: l})
		}
		formless(sorts, handed{rows: rows})
		for _, n := range items {
			formless(sorts, handed{rows: rows, orders: []api.Order{{Item: n}}})
		}
	}
}

// P12.1: rows that are refused stay as they were, too.
func TestWrongRowsStay(t *testing.T) {
	for _, rows := range wrongRows() {
		in := handed{rows: rows, exprs: exprs(zero(), place(-1)), groups: []int{-1, 0}, orders: []api.Order{{Item: 0}, {Item: 1}}}
		for _, call := range []caller{filter, join, project, groupBy, sorts} {
			refused(t, call, in, api.ErrForm)
		}
		in.rows, in.other = numbers(1, 2), rows
		refused(t, join, in, api.ErrForm)
	}
}

// What is handed in may share memory with itself; what comes out does not.
func TestRowsThatShare(t *testing.T) {
	l := row(number(1), number(2), number(3), number(4))
	for _, rows := range [][][]api.Value{{l, l, l}, {l[:2], l[1:3], l[2:]}, {l[:0], l[1:1], l[2:2]}} {
		width := len(rows[0])
		check(t, filter, handed{rows: rows, exprs: exprs(yes())}, rows, api.OK)
		check(t, project, handed{rows: rows}, make([][]api.Value, 3), api.OK)
		check(t, sorts, handed{rows: rows}, rows, api.OK)
		check(t, join, handed{rows: rows, other: rows[:1]}, rowsOf(slices.Concat(rows[0], rows[0]), slices.Concat(rows[1], rows[0]), slices.Concat(rows[2], rows[0])), api.OK)
		check(t, join, handed{rows: rows, other: make([][]api.Value, 1)}, rows, api.OK)
		check(t, join, handed{rows: make([][]api.Value, 1), other: rows}, rows, api.OK)
		var items []api.Expr
		var places []int
		for i := range width {
			items, places = append(items, place(i)), append(places, i)
		}
		check(t, project, handed{rows: rows, exprs: items}, rows, api.OK)
		check(t, groupBy, handed{rows: rows, exprs: items}, rows[:1], api.OK)
		check(t, sorts, handed{rows: rows, orders: slices.Repeat([]api.Order{{Item: max(width, 1), Down: true}}, min(width, 1))}, sortedDown(rows), api.OK)
		if got, code := Group(rows, places, items); code != api.OK || sharing(got) || sharingWith(got, rows) {
			t.Errorf("Group(%s): %s, %d", brief(rows), brief(got), code)
		}
	}
}

// sortedDown: rows whose last values ascend, or are the same, by these downward.
func sortedDown(rows [][]api.Value) [][]api.Value {
	rows = slices.Clone(rows)
	if len(rows[0]) > 0 {
		slices.Reverse(rows)
	}
	return rows
}
