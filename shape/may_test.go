package shape

import (
	"fmt"
	"math"
	"slices"
	"strings"
	"testing"

	"commonhold/api"
)

// brief: a statement as a text that is not too long.
func brief(s any) string {
	text := fmt.Sprintf("%+v", s)
	if len(text) > 600 {
		return text[:600] + ".."
	}
	return text
}

// checkMay asks Show, too: ErrForm is what may not be, and nothing else is.
func checkMay(t *testing.T, s api.Statement, want bool) {
	t.Helper()
	if got := May(s); got != want {
		t.Errorf("May(%s): %t", brief(s), got)
	}
	l, code := Show(s)
	if (code == api.ErrForm) == want || code != api.OK && len(l) != 0 {
		t.Errorf("Show(%s): %s, %d", brief(s), told(l), code)
	}
}

// mayNot: a statement that would be, if it were not for one change.
func mayNot(t *testing.T, s api.Statement, change func(*api.Statement)) {
	t.Helper()
	change(&s)
	checkMay(t, s, false)
}

func may(t *testing.T, s api.Statement, change func(*api.Statement)) {
	t.Helper()
	change(&s)
	checkMay(t, s, true)
}

// ofKind: the samples of some Kinds.
func ofKind(kinds ...int) []api.Statement {
	return slices.DeleteFunc(samples(), func(s api.Statement) bool { return !slices.Contains(kinds, s.Kind) })
}

// P8.3
func TestSamplesMay(t *testing.T) {
	for _, s := range samples() {
		checkMay(t, s, true)
	}
}

// P8.3
func TestNoSuchKind(t *testing.T) {
	checkMay(t, api.Statement{}, false)
	for _, s := range samples() {
		for _, kind := range []int{0, -1, 7, 8, 1 << 32, math.MaxInt64, math.MinInt64} {
			mayNot(t, s, func(s *api.Statement) { s.Kind = kind })
		}
		// What one Kind asks for, no other one is content with (but that Delete and Select may be alike).
		for kind := api.MakeTable; kind <= api.Select; kind++ {
			alike := kind == api.Select && s.Kind == api.Delete || kind == api.Delete && same(s, smallest()[5]) || kind == api.Select && s.Kind == api.Insert
			if kind != s.Kind && !alike {
				mayNot(t, s, func(s *api.Statement) { s.Kind = kind })
			}
		}
	}
}

// field: one that some Kinds name, and ways to set it.
type field struct {
	kinds []int
	sets  []func(*api.Statement)
}

func fields() []field {
	type s = *api.Statement
	l := []field{
		{[]int{api.MakeIndex}, []func(s){func(x s) { x.Name = "x" }, func(x s) { x.Name = "select" }, func(x s) { x.Name = " " }}},
		{[]int{api.Select}, []func(s){func(x s) { x.Other = "x" }, func(x s) { x.Other, x.On = "x", col("a") }}},
		{[]int{api.MakeTable}, []func(s){func(x s) { x.Columns = []api.Column{{Name: "a", Type: api.Int}} }, func(x s) { x.Columns = make([]api.Column, 1) }}},
		{[]int{api.MakeTable, api.MakeIndex}, []func(s){func(x s) { x.Names = []string{"a"} }, func(x s) { x.Names = []string{""} }}},
		{[]int{api.Insert, api.Select}, []func(s){func(x s) { x.Values = exprs(col("a")) }, func(x s) { x.Values = make([]api.Expr, 1) }}},
		{[]int{api.Update}, []func(s){func(x s) { x.Sets = []api.Set{{Name: "a", Expr: col("a")}} }, func(x s) { x.Sets = make([]api.Set, 1) }}},
		{[]int{api.Select}, []func(s){func(x s) { x.Groups = exprs(col("a")) }, func(x s) { x.Groups = make([]api.Expr, 1) }}},
		{[]int{api.Select}, []func(s){func(x s) { x.Orders = []api.Order{{Item: 1}} }, func(x s) { x.Orders = make([]api.Order, 1) }}},
		{[]int{api.Select}, []func(s){func(x s) { x.Limited = true }}},
		{[]int{api.Select}, []func(s){func(x s) { x.Limit = 1 }, func(x s) { x.Limit = -1 }, func(x s) { x.Limited, x.Limit = true, 1 }}},
	}
	on := field{kinds: []int{api.Select}}
	where := field{kinds: []int{api.Update, api.Delete, api.Select}}
	for _, e := range append(halfNone(), col("a"), nullOf(), by(api.Not, col("a")), api.Expr{Op: -1}) {
		on.sets = append(on.sets, func(x s) { x.On = e })
		where.sets = append(where.sets, func(x s) { x.Where = e })
	}
	return append(l, on, where)
}

// halfNone: expressions whose Op is 0, and something else of which is not zero.
func halfNone() []api.Expr {
	return []api.Expr{
		{Value: api.Value{Kind: api.Int}}, {Value: api.Value{Kind: -1}}, {Value: api.Value{Int: 1}}, {Value: api.Value{Text: "x"}}, {Value: api.Value{Kind: api.Text, Text: "x"}},
		{Table: "t"}, {Name: "a"}, {Name: "select"}, {Table: "t", Name: "a"}, {Place: 1}, {Place: -1},
		{Subs: make([]api.Expr, 1)}, {Subs: exprs(col("a"))}, {Subs: exprs(col("a"), col("b"))},
	}
}

// P8.3: what a Kind does not name is zero.
func TestFieldsThatAKindDoesNotName(t *testing.T) {
	for i, f := range fields() {
		asked := 0
		for _, s := range samples() {
			if slices.Contains(f.kinds, s.Kind) {
				continue
			}
			for _, set := range f.sets {
				mayNot(t, s, set)
				asked++
			}
		}
		if want := 2 * (6 - len(f.kinds)) * len(f.sets); asked != want {
			t.Errorf("field %d: asked %d times, not %d", i, asked, want)
		}
	}
}

// P8.3: a list without elements may be handed in either way.
func TestEmptyLists(t *testing.T) {
	for _, s := range samples() {
		for _, none := range []api.Expr{{}, {Subs: exprs()}, {Subs: make([]api.Expr, 0, 4)}} {
			may(t, s, func(s *api.Statement) {
				s.Columns = append(make([]api.Column, 0, 9), s.Columns...)
				s.Names = append(make([]string, 0, 9), s.Names...)
				s.Values = append(make([]api.Expr, 0, 9), s.Values...)
				s.Sets = append(make([]api.Set, 0, 9), s.Sets...)
				s.Groups = append(make([]api.Expr, 0, 9), s.Groups...)
				s.Orders = append(make([]api.Order, 0, 9), s.Orders...)
				if s.Other == "" {
					s.On = none
				}
				if s.Where.Op == 0 {
					s.Where = none
				}
			})
		}
	}
}

// wrongNames: texts that are no NAMES.
func wrongNames() []string { return append(noWords(), keptWords()...) }

// P8.3
func TestNamesOfStatements(t *testing.T) {
	for _, name := range wrongNames() {
		for _, s := range samples() {
			mayNot(t, s, func(s *api.Statement) { s.Table = name })
		}
		for _, s := range ofKind(api.MakeIndex) {
			mayNot(t, s, func(s *api.Statement) { s.Name = name })
		}
		for _, s := range ofKind(api.MakeTable, api.MakeIndex) {
			for i := range s.Names {
				mayNot(t, s, func(s *api.Statement) { s.Names = with(s.Names, i, name) })
			}
		}
		for _, s := range ofKind(api.MakeTable) {
			for i, c := range s.Columns {
				c.Name = name
				mayNot(t, s, func(s *api.Statement) { s.Columns = with(s.Columns, i, c) })
			}
		}
		for _, s := range ofKind(api.Update) {
			for i, set := range s.Sets {
				set.Name = name
				mayNot(t, s, func(s *api.Statement) { s.Sets = with(s.Sets, i, set) })
			}
		}
		if name != "" {
			mayNot(t, smallest()[5], func(s *api.Statement) { s.Other = name })
			mayNot(t, smallest()[5], func(s *api.Statement) { s.Other, s.On = name, col("a") })
			mayNot(t, greatest()[5], func(s *api.Statement) { s.Other = name })
		}
	}
	for _, s := range samples() {
		may(t, s, func(s *api.Statement) { s.Table = "selects" })
	}
}

// with: a copy of a list, with another element at a place.
func with[T any](l []T, i int, x T) []T {
	l = slices.Clone(l)
	l[i] = x
	return l
}

// checkLengths: a list may have so many elements, at least and at most, and no others.
func checkLengths[T any](t *testing.T, s api.Statement, least, most int, one T, put func(*api.Statement, []T)) {
	t.Helper()
	for n := range most + 3 {
		x := s
		put(&x, slices.Repeat([]T{one}, n))
		checkMay(t, x, n >= least && n <= most)
	}
	for _, n := range []int{100, 256, 1 << 16, 1 << 18} {
		x := s
		put(&x, slices.Repeat([]T{one}, n))
		checkMay(t, x, false)
	}
}

// P8.3
func TestLengthsOfLists(t *testing.T) {
	for _, s := range ofKind(api.MakeTable) {
		checkLengths(t, s, 1, 6, api.Column{Name: "a", Type: api.Int}, func(s *api.Statement, l []api.Column) { s.Columns = l })
	}
	for _, s := range ofKind(api.MakeTable, api.MakeIndex) {
		checkLengths(t, s, 1, 3, "a", func(s *api.Statement, l []string) { s.Names = l })
	}
	for _, s := range ofKind(api.Insert) {
		checkLengths(t, s, 1, 8, col("a"), func(s *api.Statement, l []api.Expr) { s.Values = l })
	}
	for _, s := range ofKind(api.Update) {
		checkLengths(t, s, 1, 8, api.Set{Name: "a", Expr: col("a")}, func(s *api.Statement, l []api.Set) { s.Sets = l })
	}
	for _, s := range ofKind(api.Select) {
		checkLengths(t, s, 0, 8, intOf(1), func(s *api.Statement, l []api.Expr) { s.Values = l })
		checkLengths(t, s, 0, 8, col("a"), func(s *api.Statement, l []api.Expr) { s.Groups = l })
		checkLengths(t, s, 0, 8, api.Order{}, func(s *api.Statement, l []api.Order) { s.Orders = l })
	}
	if api.MaxCols != 6 || api.MaxKeys != 3 || api.MaxItems != 8 || api.MaxDepth != 12 {
		t.Error("the limits are others than these tests take them for")
	}
}

// P8.3
func TestColumns(t *testing.T) {
	for _, s := range ofKind(api.MakeTable) {
		for i, c := range s.Columns {
			for _, kind := range []int{api.Truth, api.Int, api.Text} {
				for _, notNull := range []bool{false, true} {
					c.Type, c.NotNull = kind, notNull
					may(t, s, func(s *api.Statement) { s.Columns = with(s.Columns, i, c) })
				}
			}
			for _, kind := range []int{api.Null, -1, 4, 5, math.MaxInt64, math.MinInt64} {
				c.Type = kind
				mayNot(t, s, func(s *api.Statement) { s.Columns = with(s.Columns, i, c) })
			}
		}
	}
	// Whether names are there, and not twice, is not asked here.
	checkMay(t, api.Statement{Kind: api.MakeTable, Table: "t", Columns: []api.Column{{Name: "t", Type: api.Int}, {Name: "t", Type: api.Int}}, Names: []string{"x", "x"}}, true)
	checkMay(t, api.Statement{Kind: api.MakeIndex, Name: "t", Table: "t", Names: []string{"t", "t"}}, true)
	checkMay(t, api.Statement{Kind: api.Update, Table: "t", Sets: []api.Set{{Name: "a", Expr: intOf(1)}, {Name: "a", Expr: intOf(1)}}}, true)
	checkMay(t, api.Statement{Kind: api.Select, Table: "t", Other: "t", On: truthOf(1), Groups: exprs(col("a"), col("a")), Orders: []api.Order{{Item: 9}}}, true)
}

// P8.3
func TestJoin(t *testing.T) {
	for _, s := range ofKind(api.Select) {
		mayNot(t, s, func(s *api.Statement) { s.Other, s.On = "", col("a") })
		mayNot(t, s, func(s *api.Statement) { s.Other, s.On = "u", api.Expr{} })
		mayNot(t, s, func(s *api.Statement) { s.Other, s.On = "u", api.Expr{Subs: exprs()} })
		may(t, s, func(s *api.Statement) { s.Other, s.On = "", api.Expr{} })
		may(t, s, func(s *api.Statement) { s.Other, s.On = "u", nullOf() })
		for _, e := range halfNone() {
			mayNot(t, s, func(s *api.Statement) { s.Other, s.On = "", e })
			mayNot(t, s, func(s *api.Statement) { s.Other, s.On = "u", e })
		}
	}
}

// P8.3
func TestGroups(t *testing.T) {
	for _, e := range exprs(nullOf(), intOf(1), textOf("a"), by(api.CountAll), by(api.Neg, col("a")), by(api.Plus, col("a"), col("b")), by(api.Max, col("a")), api.Expr{}) {
		mayNot(t, smallest()[5], func(s *api.Statement) { s.Groups = exprs(e) })
		for i := range api.MaxItems {
			mayNot(t, greatest()[5], func(s *api.Statement) { s.Groups = with(s.Groups, i, e) })
		}
	}
}

// P8.3
func TestOrdersAndLimit(t *testing.T) {
	for _, down := range []bool{false, true} {
		for i := range api.MaxItems {
			for _, item := range []int{0, 1, 8, 9, 1 << 40, math.MaxInt64} {
				may(t, greatest()[5], func(s *api.Statement) { s.Orders = with(s.Orders, i, api.Order{Item: item, Down: down}) })
			}
			for _, item := range []int{-1, -2, math.MinInt64} {
				mayNot(t, greatest()[5], func(s *api.Statement) { s.Orders = with(s.Orders, i, api.Order{Item: item, Down: down}) })
			}
		}
	}
	for _, s := range ofKind(api.Select) {
		for _, n := range []int{0, 1, 2, math.MaxInt64, -1, math.MinInt64} {
			x := s
			x.Limited, x.Limit = true, n
			checkMay(t, x, n >= 0)
			x.Limited = false
			checkMay(t, x, n == 0)
		}
	}
}

// places: statements with an expression in each place where any may stand, first and last.
func places(e api.Expr) []api.Statement {
	small, great := smallest(), greatest()
	small[2].Values = exprs(e)
	small[3].Sets = []api.Set{{Name: "a", Expr: e}}
	small[4].Where = e
	small[5].Values = exprs(e)
	l := small[2:6]
	put := func(s api.Statement, change func(*api.Statement)) {
		change(&s)
		l = append(l, s)
	}
	for _, i := range []int{0, 3, api.MaxItems - 1} {
		put(great[2], func(s *api.Statement) { s.Values = with(s.Values, i, e) })
		put(great[3], func(s *api.Statement) { s.Sets = with(s.Sets, i, api.Set{Name: "a", Expr: e}) })
		put(great[5], func(s *api.Statement) { s.Values = with(s.Values, i, e) })
	}
	put(smallest()[3], func(s *api.Statement) { s.Where = e })
	put(smallest()[5], func(s *api.Statement) { s.Where = e })
	put(smallest()[5], func(s *api.Statement) { s.Other, s.On = "u", e })
	put(great[3], func(s *api.Statement) { s.Where = e })
	put(great[4], func(s *api.Statement) { s.Where = e })
	put(great[5], func(s *api.Statement) { s.Where = e })
	put(great[5], func(s *api.Statement) { s.On = e })
	return l
}

// checkExpr: whether an expression may be written, wherever one may stand.
func checkExpr(t *testing.T, e api.Expr, want bool) {
	t.Helper()
	for _, s := range places(e) {
		checkMay(t, s, want)
	}
}

// checkPart asks an expression, and one with it within, as each part.
func checkPart(t *testing.T, e api.Expr, want bool) {
	t.Helper()
	checkExpr(t, e, want)
	for _, whole := range exprs(by(api.Neg, e), by(api.Plus, e, col("b")), by(api.Or, col("b"), e), by(api.Min, e), by(api.Not, by(api.IsNull, e))) {
		checkExpr(t, whole, want)
	}
}

// others: an expression that may be written, with each other field than some set.
func others(e api.Expr, sets ...string) []api.Expr {
	var l []api.Expr
	add := func(name string, change func(*api.Expr)) {
		if !slices.Contains(sets, name) {
			x := e
			change(&x)
			l = append(l, x)
		}
	}
	add("value", func(e *api.Expr) { e.Value = api.Value{Kind: api.Int} })
	add("value", func(e *api.Expr) { e.Value = api.Value{Kind: api.Text, Text: "x"} })
	add("value", func(e *api.Expr) { e.Value.Int = 1 })
	add("value", func(e *api.Expr) { e.Value.Text = "x" })
	add("value", func(e *api.Expr) { e.Value.Kind = -1 })
	add("table", func(e *api.Expr) { e.Table = "t" })
	add("table", func(e *api.Expr) { e.Table = "select" })
	add("name", func(e *api.Expr) { e.Name = "a" })
	add("name", func(e *api.Expr) { e.Name = "select" })
	add("place", func(e *api.Expr) { e.Place = 1 })
	add("place", func(e *api.Expr) { e.Place = -1 })
	add("subs", func(e *api.Expr) { e.Subs = make([]api.Expr, 1) })
	add("subs", func(e *api.Expr) { e.Subs = exprs(col("a")) })
	add("subs", func(e *api.Expr) { e.Subs = exprs(col("a"), col("b")) })
	return l
}

// P8.2
func TestConst(t *testing.T) {
	for _, v := range []api.Value{
		{}, {Kind: api.Truth}, {Kind: api.Truth, Int: 1}, {Kind: api.Int}, {Kind: api.Int, Int: 1}, {Kind: api.Int, Int: math.MaxInt64},
		{Kind: api.Text}, {Kind: api.Text, Text: "it's"}, {Kind: api.Text, Text: strings.Repeat("a", api.MaxText)}, {Kind: api.Text, Text: strings.Repeat("é", api.MaxText/2)}, {Kind: api.Text, Text: "\x00"}, {Kind: api.Text, Text: "select"},
	} {
		e := api.Expr{Op: api.Const, Value: v}
		checkPart(t, e, true)
		for _, x := range others(e, "value") {
			checkPart(t, x, false)
		}
		e.Subs = make([]api.Expr, 0, 3)
		checkPart(t, e, true)
	}
	for _, v := range []api.Value{
		{Kind: -1}, {Kind: 4}, {Kind: math.MaxInt64}, {Kind: math.MinInt64}, {Int: 1}, {Int: -1}, {Text: "x"},
		{Kind: api.Truth, Int: 2}, {Kind: api.Truth, Int: -1}, {Kind: api.Truth, Text: "x"}, {Kind: api.Int, Int: -1}, {Kind: api.Int, Int: math.MinInt64}, {Kind: api.Int, Text: "1"},
		{Kind: api.Text, Int: 1}, {Kind: api.Text, Int: -1}, {Kind: api.Text, Text: strings.Repeat("a", api.MaxText+1)}, {Kind: api.Text, Text: "\xff"}, {Kind: api.Text, Text: strings.Repeat("é", api.MaxText/2) + "a"}, {Kind: api.Text, Text: "a\xc3"},
	} {
		checkPart(t, api.Expr{Op: api.Const, Value: v}, false)
	}
}

// P8.2
func TestNamed(t *testing.T) {
	for _, name := range []string{"a", "_", "truths", "twelve_bytes"} {
		for _, e := range exprs(col(name), colOf(name, "a"), colOf("t", name), colOf(name, name)) {
			checkPart(t, e, true)
			for _, x := range others(e, "table", "name") {
				checkPart(t, x, false)
			}
		}
	}
	for _, name := range wrongNames() {
		checkExpr(t, col(name), false)
		checkExpr(t, colOf("t", name), false)
		checkExpr(t, by(api.Neg, col(name)), false)
		checkExpr(t, by(api.Plus, intOf(1), colOf("t", name)), false)
		mayNot(t, smallest()[5], func(s *api.Statement) { s.Groups = exprs(col("a"), col(name)) })
		if name != "" {
			checkExpr(t, colOf(name, "a"), false)
			checkExpr(t, by(api.Max, colOf(name, "a")), false)
			mayNot(t, smallest()[5], func(s *api.Statement) { s.Groups = exprs(colOf(name, "a"), col("a")) })
		}
	}
	for _, e := range others(col("a"), "table", "name") {
		mayNot(t, smallest()[5], func(s *api.Statement) { s.Groups = exprs(e) })
	}
}

// partsByOp: how many parts each expression has that is made of parts, as P8.2 says it.
func partsByOp() map[int]int {
	return map[int]int{
		api.Neg: 1, api.Not: 1, api.IsNull: 1, api.IsSome: 1, api.CountAll: 0, api.Count: 1, api.Sum: 1, api.Min: 1, api.Max: 1,
		api.Plus: 2, api.Minus: 2, api.Times: 2, api.Over: 2, api.Rest: 2,
		api.Equal: 2, api.Differ: 2, api.Less: 2, api.Most: 2, api.More: 2, api.Least: 2, api.And: 2, api.Or: 2,
	}
}

// wrongParts: expressions that are no parts of any.
func wrongParts() []api.Expr {
	return append(halfNone(), api.Expr{}, intOf(-1), textOf("\xff"), col(""), col("A"), colOf("select", "a"), api.Expr{Op: api.Place}, by(api.Plus, col("a")), by(api.Neg), by(api.CountAll, col("a")), by(99))
}

// P8.2
func TestParts(t *testing.T) {
	ops := partsByOp()
	if len(ops) != api.Max-3 {
		t.Fatalf("%d ops are asked", len(ops))
	}
	for op, n := range ops {
		for k := range 5 {
			checkPart(t, by(op, slices.Repeat(exprs(col("a")), k)...), k == n)
		}
		checkExpr(t, by(op, slices.Repeat(exprs(col("a")), 1<<16)...), false)
		e := by(op, slices.Repeat(exprs(intOf(1)), n)...)
		for _, x := range others(e, "subs") {
			checkExpr(t, x, false)
		}
		for i := range n {
			for _, part := range wrongParts() {
				checkExpr(t, by(op, with(e.Subs, i, part)...), false)
			}
			for inner, k := range ops {
				checkExpr(t, by(op, with(e.Subs, i, by(inner, slices.Repeat(exprs(nullOf()), k)...))...), true)
			}
		}
	}
}

// P8.2
func TestNoSuchOp(t *testing.T) {
	for _, op := range []int{api.Place, api.Max + 1, api.Max + 2, -1, -2, 100, 1 << 32, math.MaxInt64, math.MinInt64} {
		for k := range 4 {
			checkPart(t, by(op, slices.Repeat(exprs(col("a")), k)...), false)
		}
		checkPart(t, api.Expr{Op: op, Name: "a"}, false)
		checkPart(t, api.Expr{Op: op, Table: "t", Name: "a"}, false)
		checkPart(t, api.Expr{Op: op, Value: api.Value{Kind: api.Int, Int: 1}}, false)
		checkPart(t, api.Expr{Op: op, Place: 1}, false)
	}
}

// P8.2, P8.3: no expression at all is none where there may be none, and may not stand elsewhere.
func TestNone(t *testing.T) {
	for _, none := range []api.Expr{{}, {Subs: exprs()}} {
		for _, s := range ofKind(api.Update, api.Delete, api.Select) {
			may(t, s, func(s *api.Statement) { s.Where = none })
		}
		for _, s := range ofKind(api.Insert, api.Select) {
			for i := range s.Values {
				mayNot(t, s, func(s *api.Statement) { s.Values = with(s.Values, i, none) })
			}
		}
		for _, s := range ofKind(api.Update) {
			for i := range s.Sets {
				mayNot(t, s, func(s *api.Statement) { s.Sets = with(s.Sets, i, api.Set{Name: "a", Expr: none}) })
			}
		}
	}
	for _, e := range halfNone() {
		checkPart(t, e, false)
	}
}

// ways: all ways to lay an expression within one more.
func ways() []func(api.Expr) api.Expr {
	l := []func(api.Expr) api.Expr{}
	for op, n := range partsByOp() {
		for i := range n {
			l = append(l, func(e api.Expr) api.Expr { return by(op, with(slices.Repeat(exprs(intOf(1)), n), i, e)...) })
		}
	}
	return l
}

// P8.2
func TestDepth(t *testing.T) {
	for _, leaf := range exprs(nullOf(), textOf("x"), col("a"), colOf("t", "a"), by(api.CountAll)) {
		for _, within := range ways() {
			e := leaf
			for depth := 1; depth <= api.MaxDepth+3; depth++ {
				checkExpr(t, e, depth <= api.MaxDepth)
				e = within(e)
			}
		}
	}
	// Whatever way they lie within each other, and however great they are.
	for n := 1; n <= api.MaxDepth+2; n++ {
		checkExpr(t, deep(n), n <= api.MaxDepth)
		checkExpr(t, bushy(n), n <= api.MaxDepth)
	}
	// Only the deeper one of two parts counts.
	checkExpr(t, by(api.Plus, deep(11), deep(11)), true)
	checkExpr(t, by(api.Plus, deep(11), deep(12)), false)
	checkExpr(t, by(api.Plus, deep(12), deep(11)), false)
	checkExpr(t, by(api.Plus, col("a"), deep(12)), false)
}

// bushy: an expression as deep as that, with two parts wherever there may be some.
func bushy(depth int) api.Expr {
	if depth == 1 {
		return colOf("t", "a")
	}
	part := bushy(depth - 1)
	return by(api.Times, part, part)
}

// Every call ends, however deep expressions lie within each other, and if they lie within themselves.
func TestEndless(t *testing.T) {
	e := col("a")
	for range 1 << 16 {
		e = by(api.Neg, e)
	}
	checkEndless(t, e)
	e = col("a")
	for range 1 << 16 {
		e = by(api.Or, e, e)
	}
	checkEndless(t, e)
	for _, op := range []int{api.Neg, api.Not, api.Count, api.CountAll, api.Const, api.Named, 0, 99} {
		l := make([]api.Expr, 1)
		l[0] = by(op, l...)
		checkEndless(t, l[0])
	}
	for _, op := range []int{api.Plus, api.Or, api.Neg, 0} {
		l := make([]api.Expr, 2)
		l[0], l[1] = by(op, l...), by(op, l...)
		checkEndless(t, l[0])
	}
}

// checkEndless tells nothing of the expression itself, since that would not end.
func checkEndless(t *testing.T, e api.Expr) {
	t.Helper()
	for _, s := range append(places(e), api.Statement{Kind: api.Select, Table: "t", Groups: exprs(e)}, api.Statement{Kind: api.MakeTable, Table: "t", On: e}) {
		if May(s) {
			t.Errorf("May: true with Op %d within it without end", e.Op)
		}
		if l, code := Show(s); len(l) != 0 || code != api.ErrForm {
			t.Errorf("Show: %s, %d with Op %d within it without end", told(l), code, e.Op)
		}
	}
}
