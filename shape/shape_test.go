package shape

import (
	"slices"
	"strings"
	"testing"

	"commonhold/api"
	"commonhold/lex"
	"commonhold/parse"
)

func nullOf() api.Expr { return api.Expr{Op: api.Const} }

func truthOf(n int) api.Expr {
	return api.Expr{Op: api.Const, Value: api.Value{Kind: api.Truth, Int: n}}
}

func intOf(n int) api.Expr {
	return api.Expr{Op: api.Const, Value: api.Value{Kind: api.Int, Int: n}}
}

func textOf(s string) api.Expr {
	return api.Expr{Op: api.Const, Value: api.Value{Kind: api.Text, Text: s}}
}

func col(s string) api.Expr { return api.Expr{Op: api.Named, Name: s} }

func colOf(table, s string) api.Expr { return api.Expr{Op: api.Named, Table: table, Name: s} }

func by(op int, subs ...api.Expr) api.Expr { return api.Expr{Op: op, Subs: subs} }

func exprs(l ...api.Expr) []api.Expr { return l }

func sameExpr(a, b api.Expr) bool {
	return a.Op == b.Op && a.Value == b.Value && a.Table == b.Table && a.Name == b.Name && a.Place == b.Place && slices.EqualFunc(a.Subs, b.Subs, sameExpr)
}

func sameSet(a, b api.Set) bool { return a.Name == b.Name && sameExpr(a.Expr, b.Expr) }

// same: a list without elements may be nil or not.
func same(a, b api.Statement) bool {
	return a.Kind == b.Kind && a.Name == b.Name && a.Table == b.Table && a.Other == b.Other &&
		slices.Equal(a.Columns, b.Columns) && slices.Equal(a.Names, b.Names) &&
		slices.EqualFunc(a.Values, b.Values, sameExpr) && slices.EqualFunc(a.Sets, b.Sets, sameSet) &&
		sameExpr(a.On, b.On) && sameExpr(a.Where, b.Where) && slices.EqualFunc(a.Groups, b.Groups, sameExpr) &&
		slices.Equal(a.Orders, b.Orders) && a.Limited == b.Limited && a.Limit == b.Limit
}

// cut: the tokens of a source.
func cut(t *testing.T, s string) []api.Token {
	t.Helper()
	l, _, code := lex.Cut(s)
	if code != api.OK {
		t.Fatalf("%q is not cut: %d", s, code)
	}
	return l
}

// read: the statement of a source.
func read(t *testing.T, s string) api.Statement {
	t.Helper()
	x, at, code := parse.Parse(cut(t, s))
	if code != api.OK {
		t.Fatalf("%q is not read: %d, %d", s, at, code)
	}
	return x
}

// told: tokens as a text, whatever they are.
func told(l []api.Token) string {
	var texts []string
	for _, token := range l {
		s, code := lex.Join([]api.Token{token})
		if code != api.OK {
			s = "?"
		}
		texts = append(texts, s)
	}
	return strings.Join(texts, " ")
}

// keptWords: as P7.1 names them.
func keptWords() []string {
	return strings.Split("and, by, count, create, delete, desc, false, from, group, index, insert, int, into, is, join, key, limit, max, min, not, null, on, or, order, primary, select, set, sum, table, text, true, truth, update, values, where", ", ")
}

// noWords: texts that are no Word's.
func noWords() []string {
	return []string{
		"", "A", "aB", "Ab", "1", "1a", "9_", "a b", " a", "a ", "a\x00", "\x00", "a-b", "a.b", "'a'", "\"a\"", "a,", "(", "*", "=", "--", "é", "aé", "\xff", "a\n",
		"thirteenbytes", "_23456789abc_", strings.Repeat("a", 100), strings.Repeat("a", 1<<20), strings.Repeat("select", 9),
	}
}

func checkName(t *testing.T, s string, want bool) {
	t.Helper()
	if got := MayName(s); got != want {
		t.Errorf("MayName(%q): %t", s, got)
	}
}

// P8.1
func TestNames(t *testing.T) {
	for _, s := range []string{
		"a", "z", "_", "__", "_1", "a1", "z9_", "t", "name", "truths", "selects", "twelve_bytes", "abcdefghijkl", "_23456789abc", "____________",
		"or_", "and1", "as", "avg", "having", "distinct", "unique", "unknown", "integer", "asc", "drop", "begin",
	} {
		checkName(t, s, true)
	}
	for _, s := range noWords() {
		checkName(t, s, false)
	}
	if strings.Repeat("a", api.MaxName) != "aaaaaaaaaaaa" {
		t.Fatal("MaxName is another one than the names here take it for")
	}
}

// P8.1
func TestKeptWordsAreNoNames(t *testing.T) {
	words := keptWords()
	if len(words) != 35 {
		t.Fatalf("%d words are asked, not 35", len(words))
	}
	for _, w := range words {
		checkName(t, w, false)
		checkName(t, strings.ToUpper(w), false)
		checkName(t, strings.ToUpper(w[:1])+w[1:], false)
		checkName(t, w+"_", true)
		checkName(t, "_"+w, true)
		checkName(t, w+"1", true)
		checkName(t, "1"+w, false)
		checkName(t, w+" ", false)
		for i := 1; i < len(w); i++ {
			checkName(t, w[:i], !slices.Contains(words, w[:i]))
			checkName(t, w[i:], !slices.Contains(words, w[i:]))
		}
	}
}

// P8.1: each byte, alone, ahead of another one and behind one.
func TestNamesByteByByte(t *testing.T) {
	for i := range 256 {
		c := byte(i)
		letter := c >= 'a' && c <= 'z' || c == '_'
		digit := c >= '0' && c <= '9'
		checkName(t, string([]byte{c}), letter)
		checkName(t, string([]byte{c, 'q'}), letter)
		checkName(t, string([]byte{'q', c}), letter || digit)
		checkName(t, string([]byte{'q', c, '7'}), letter || digit)
	}
}

// smallest: of each Kind, with nothing but what has to stand there.
func smallest() []api.Statement {
	return []api.Statement{
		{Kind: api.MakeTable, Table: "t", Columns: []api.Column{{Name: "a", Type: api.Truth}}, Names: []string{"a"}},
		{Kind: api.MakeIndex, Name: "i", Table: "t", Names: []string{"a"}},
		{Kind: api.Insert, Table: "t", Values: exprs(nullOf())},
		{Kind: api.Update, Table: "t", Sets: []api.Set{{Name: "a", Expr: nullOf()}}},
		{Kind: api.Delete, Table: "t"},
		{Kind: api.Select, Table: "t"},
	}
}

// deep: so many expressions within each other.
func deep(n int) api.Expr {
	e := col("twelve_bytes")
	for i := range n - 1 {
		switch i % 4 {
		case 0:
			e = by(api.Neg, e)
		case 1:
			e = by(api.Plus, e, intOf(1))
		case 2:
			e = by(api.Times, intOf(2), e)
		case 3:
			e = by(api.Max, e)
		}
	}
	return e
}

// greatest: of each Kind, with all that may stand there, and each list as long as it may be.
func greatest() []api.Statement {
	name := "twelve_bytes"
	columns := slices.Repeat([]api.Column{{Name: name, Type: api.Text, NotNull: true}, {Name: "b", Type: api.Int}, {Name: "c", Type: api.Truth, NotNull: true}}, api.MaxCols/3)
	names := slices.Repeat([]string{name}, api.MaxKeys)
	e := deep(api.MaxDepth)
	values := slices.Repeat(exprs(e), api.MaxItems)
	sets := slices.Repeat([]api.Set{{Name: name, Expr: e}}, api.MaxItems)
	groups := slices.Repeat(exprs(colOf(name, name), col("g")), api.MaxItems/2)
	orders := slices.Repeat([]api.Order{{Item: 1<<63 - 1, Down: true}, {Item: 0}}, api.MaxItems/2)
	return []api.Statement{
		{Kind: api.MakeTable, Table: name, Columns: columns, Names: names},
		{Kind: api.MakeIndex, Name: name, Table: name, Names: names},
		{Kind: api.Insert, Table: name, Values: values},
		{Kind: api.Update, Table: name, Sets: sets, Where: e},
		{Kind: api.Delete, Table: name, Where: e},
		{Kind: api.Select, Table: name, Other: name, On: e, Values: values, Where: e, Groups: groups, Orders: orders, Limited: true, Limit: 1<<63 - 1},
	}
}

// samples: statements of each Kind that may be.
func samples() []api.Statement { return append(smallest(), greatest()...) }

// roomy: a copy of a list, with spare room behind it.
func roomy[T any](l []T, spare T) []T {
	kept := make([]T, len(l), len(l)+3)
	copy(kept, l)
	for i := len(l); i < cap(kept); i++ {
		kept[:cap(kept)][i] = spare
	}
	return kept
}

func roomyExpr(e api.Expr) api.Expr {
	e.Subs = roomyExprs(e.Subs)
	return e
}

func roomyExprs(l []api.Expr) []api.Expr {
	l = roomy(l, textOf("spare"))
	for i := range l {
		l[i] = roomyExpr(l[i])
	}
	return l
}

// roomyStatement: a copy whose lists share nothing, and have spare room, in which something stands.
func roomyStatement(s api.Statement) api.Statement {
	s.Columns = roomy(s.Columns, api.Column{Name: "spare", Type: api.Int})
	s.Names = roomy(s.Names, "spare")
	s.Values = roomyExprs(s.Values)
	s.Sets = roomy(s.Sets, api.Set{Name: "spare", Expr: intOf(1)})
	for i := range s.Sets {
		s.Sets[i].Expr = roomyExpr(s.Sets[i].Expr)
	}
	s.On, s.Where = roomyExpr(s.On), roomyExpr(s.Where)
	s.Groups = roomyExprs(s.Groups)
	s.Orders = roomy(s.Orders, api.Order{Item: 7})
	return s
}

// full: a list with its spare room.
func full[T any](l []T) []T { return l[:cap(l)] }

func fullExpr(e api.Expr) api.Expr {
	e.Subs = fullExprs(e.Subs)
	return e
}

func fullExprs(l []api.Expr) []api.Expr {
	l = slices.Clone(full(l))
	for i := range l {
		l[i] = fullExpr(l[i])
	}
	return l
}

// fullStatement: a copy with all that stands in the spare room of its lists, too.
func fullStatement(s api.Statement) api.Statement {
	s.Columns, s.Names, s.Orders = full(s.Columns), full(s.Names), full(s.Orders)
	s.Values, s.Groups = fullExprs(s.Values), fullExprs(s.Groups)
	s.Sets = slices.Clone(full(s.Sets))
	for i := range s.Sets {
		s.Sets[i].Expr = fullExpr(s.Sets[i].Expr)
	}
	s.On, s.Where = fullExpr(s.On), fullExpr(s.Where)
	return s
}

// Lists that are handed in are not changed, and their spare room neither.
func TestNothingHandedInIsChanged(t *testing.T) {
	for _, sample := range append(samples(), read(t, "select a , b from t join u on a = b where ( a or b ) and c group by a , t . b order by 1 , 2 desc limit 3")) {
		s, kept := roomyStatement(sample), roomyStatement(sample)
		if !May(s) {
			t.Errorf("May(%+v): false", s)
		}
		want, code := Show(sample)
		l, again := Show(s)
		if code != again || !slices.Equal(l, want) {
			t.Errorf("Show(%+v): %s, %d; with spare room %s, %d", sample, told(want), code, told(l), again)
		}
		// What becomes of the answer is nothing to what was handed in.
		clear(full(l))
		if !same(s, kept) || !same(fullStatement(s), fullStatement(kept)) {
			t.Errorf("%+v is now %+v", kept, s)
		}
	}
}

// No two answers share anything, their spare room neither.
func TestAnswersAreNew(t *testing.T) {
	for _, s := range samples() {
		first, _ := Show(s)
		kept := slices.Clone(first)
		second, _ := Show(s)
		clear(full(second))
		if !slices.Equal(first, kept) {
			t.Errorf("Show(%+v) is changed from outside: %s", s, told(first))
		}
		clear(full(first))
		if third, _ := Show(s); !slices.Equal(third, kept) {
			t.Errorf("Show(%+v): %s, and later %s", s, told(kept), told(third))
		}
	}
}
