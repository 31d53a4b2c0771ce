package parse

import (
	"math"
	"slices"
	"strings"
	"testing"

	"commonhold/api"
	"commonhold/lex"
)

func word(s string) api.Token { return api.Token{Kind: api.Word, Text: s} }

func number(n int) api.Token { return api.Token{Kind: api.Number, Int: n} }

func quoted(s string) api.Token { return api.Token{Kind: api.Quote, Text: s} }

func mark(s string) api.Token { return api.Token{Kind: api.Mark, Text: s} }

// of: so many times the same token.
func of(n int, token api.Token) []api.Token { return slices.Repeat([]api.Token{token}, n) }

// cut: the tokens of a source.
func cut(t *testing.T, s string) []api.Token {
	t.Helper()
	l, _, code := lex.Cut(s)
	if code != api.OK {
		t.Fatalf("%q is not cut: %d", s, code)
	}
	return l
}

// told: tokens as a text, whatever they are.
func told(l []api.Token) string {
	var texts []string
	for _, token := range l {
		s, code := lex.Join([]api.Token{token})
		if code != api.OK {
			s = "?"
		}
		texts = append(texts, s)
	}
	return strings.Join(texts, " ")
}

func sameExpr(a, b api.Expr) bool {
	return a.Op == b.Op && a.Value == b.Value && a.Table == b.Table && a.Name == b.Name && a.Place == b.Place && slices.EqualFunc(a.Subs, b.Subs, sameExpr)
}

func sameSet(a, b api.Set) bool { return a.Name == b.Name && sameExpr(a.Expr, b.Expr) }

// same: a list without elements may be nil or not.
func same(a, b api.Statement) bool {
	return a.Kind == b.Kind && a.Name == b.Name && a.Table == b.Table && a.Other == b.Other &&
		slices.Equal(a.Columns, b.Columns) && slices.Equal(a.Names, b.Names) &&
		slices.EqualFunc(a.Values, b.Values, sameExpr) && slices.EqualFunc(a.Sets, b.Sets, sameSet) &&
		sameExpr(a.On, b.On) && sameExpr(a.Where, b.Where) && slices.EqualFunc(a.Groups, b.Groups, sameExpr) &&
		slices.Equal(a.Orders, b.Orders) && a.Limited == b.Limited && a.Limit == b.Limit
}

func checkParse(t *testing.T, l []api.Token, want api.Statement) {
	t.Helper()
	if s, at, code := Parse(l); !same(s, want) || at != 0 || code != api.OK {
		t.Errorf("Parse(%s): %+v, %d, %d; want %+v", told(l), s, at, code, want)
	}
}

func reads(t *testing.T, source string, want api.Statement) {
	t.Helper()
	checkParse(t, cut(t, source), want)
}

func parseRefuses(t *testing.T, l []api.Token, place int, want api.Errno) {
	t.Helper()
	if s, at, code := Parse(l); !same(s, api.Statement{}) || at != place || code != want {
		t.Errorf("Parse(%s): %+v, %d, %d; want nothing, %d, %d", told(l), s, at, code, place, want)
	}
}

func refuses(t *testing.T, source string, place int, want api.Errno) {
	t.Helper()
	parseRefuses(t, cut(t, source), place, want)
}

// endsEarly: the source would have to go on.
func endsEarly(t *testing.T, source string) {
	t.Helper()
	refuses(t, source, len(cut(t, source)), api.ErrShort)
}

// samples: statements of each kind, with all that may stand there, and without.
func samples() []string {
	return []string{
		"create table t ( a int , primary key ( a ) )",
		"create table t ( a truth , b int not null , c text , primary key ( b , a , c ) )",
		"create index i on t ( a )",
		"create index i on t ( a , b , c )",
		"insert into t values ( 1 )",
		"insert into t values ( null , true , - 3 + a . b , 'x' )",
		"update t set a = 1",
		"update t set a = b = 1 , b = 'x' where not a is null",
		"delete from t",
		"delete from t where ( a or b ) and c is not null",
		"select * from t",
		"select count ( * ) , count ( a ) , sum ( a * 2 ) , min ( ( a ) ) , max ( - b ) from t",
		"select a , t . b from t join u on a = u . b where a < 3 or b >= 4 group by a , t . b order by 1 , 2 desc limit 10",
		"select a + b - c , a * b / c % d from t order by 1 desc",
	}
}

// keptWords: as P7.1 names them.
func keptWords() []string {
	return strings.Split("and, by, count, create, delete, desc, false, from, group, index, insert, int, into, is, join, key, limit, max, min, not, null, on, or, order, primary, select, set, sum, table, text, true, truth, update, values, where", ", ")
}

func checkKept(t *testing.T, w string, want bool) {
	t.Helper()
	if got := Kept(w); got != want {
		t.Errorf("Kept(%q): %t", w, got)
	}
}

// P7.1
func TestKept(t *testing.T) {
	if len(kept) != 35 {
		t.Fatalf("%d words are asked, not 35", len(kept))
	}
	for _, w := range kept {
		checkKept(t, w, true)
		checkKept(t, strings.ToUpper(w), false)
		checkKept(t, strings.ToUpper(w[:1])+w[1:], false)
		checkKept(t, w[:len(w)-1]+strings.ToUpper(w[len(w)-1:]), false)
		for _, more := range []string{"_", "s", "1", " ", "\x00", "\n", ",", "x_y"} {
			checkKept(t, w+more, slices.Contains(kept, w+more))
			checkKept(t, more+w, slices.Contains(kept, more+w))
		}
		for i := range len(w) {
			checkKept(t, w[:i], slices.Contains(kept, w[:i]))
			checkKept(t, w[i:], slices.Contains(kept, w[i:]))
		}
		for _, other := range kept {
			checkKept(t, w+other, false)
			checkKept(t, w+" "+other, false)
		}
	}
	for _, w := range []string{"", " ", "a", "t", "whence", "asc", "as", "drop", "integer", "bool", "having", "avg", "distinct", "begin", "commit", "unknown", "in", "like", "(", "*", "-", "'and'", "é", "\xff", strings.Repeat("a", 1<<16)} {
		checkKept(t, w, false)
	}
}

// P7.1: all texts of at most three small letters.
func TestKeptShortWords(t *testing.T) {
	const letters = "abcdefghijklmnopqrstuvwxyz_"
	count := 0
	ask := func(w string) {
		checkKept(t, w, slices.Contains(kept, w))
		if Kept(w) {
			count++
		}
	}
	for _, a := range letters {
		ask(string(a))
		for _, b := range letters {
			ask(string(a) + string(b))
			for _, c := range letters {
				ask(string(a) + string(b) + string(c))
			}
		}
	}
	if count != 12 {
		t.Errorf("%d words of at most three letters are kept, not 12", count)
	}
}

// P7.1, P7.3: a kept word where a NAME must stand; # is its place.
func TestKeptWordForName(t *testing.T) {
	for _, s := range []string{
		"create table # ( a int , primary key ( a ) )",
		"create table t ( # int , primary key ( a ) )",
		"create table t ( a int , # int , primary key ( a ) )",
		"create table t ( a int , primary key ( # ) )",
		"create table t ( a int , primary key ( a , # ) )",
		"create index # on t ( a )", "create index i on # ( a )", "create index i on t ( # )", "create index i on t ( a , # )",
		"insert into # values ( 1 )", "insert into t values ( a . # )",
		"update # set a = 1", "update t set # = 1", "update t set a = 1 , # = 2",
		"delete from #", "delete from # where a", "delete from t where a . #",
		"select * from #", "select a . # from t", "select * from t join # on a", "select * from t group by #", "select * from t group by a , #", "select * from t group by a . #",
	} {
		ahead := cut(t, s[:strings.Index(s, "#")])
		behind := cut(t, s[strings.Index(s, "#")+1:])
		in := func(w string) []api.Token { return slices.Concat(ahead, []api.Token{word(w)}, behind) }
		for _, w := range kept {
			if w == "primary" && strings.Contains(s, ", # int") {
				// There the key may stand: the token behind it is refused.
				parseRefuses(t, in(w), len(ahead)+1, api.ErrForm)
				continue
			}
			parseRefuses(t, in(w), len(ahead), api.ErrForm)
		}
		for _, w := range []string{"a", "_", "x1", "ands", "selec", "not_", "twelve_bytes"} {
			if s, at, code := Parse(in(w)); s.Kind == 0 || at != 0 || code != api.OK {
				t.Errorf("Parse(%s): %d, %d", told(in(w)), at, code)
			}
		}
		for _, token := range []api.Token{number(1), quoted("a"), mark("("), mark("*")} {
			parseRefuses(t, slices.Concat(ahead, []api.Token{token}, behind), len(ahead), api.ErrForm)
		}
	}
}

// P7.2, P7.4
func TestMakeTable(t *testing.T) {
	a, b := api.Column{Name: "a", Type: api.Int}, api.Column{Name: "b", Type: api.Text, NotNull: true}
	table := func(names []string, columns ...api.Column) api.Statement {
		return api.Statement{Kind: api.MakeTable, Table: "t", Columns: columns, Names: names}
	}
	reads(t, "create table t ( a int , primary key ( a ) )", table([]string{"a"}, a))
	reads(t, "create table t ( a int , b text not null , primary key ( b , a ) )", table([]string{"b", "a"}, a, b))
	reads(t, "create table t ( b text not null , a int , primary key ( a ) )", table([]string{"a"}, b, a))
	for name, kind := range map[string]int{"truth": api.Truth, "int": api.Int, "text": api.Text} {
		reads(t, "create table t ( c "+name+" , primary key ( x ) )", table([]string{"x"}, api.Column{Name: "c", Type: kind}))
		reads(t, "create table t ( c "+name+" not null , primary key ( x ) )", table([]string{"x"}, api.Column{Name: "c", Type: kind, NotNull: true}))
	}
	// What the columns and the key are called, and how many they are, is not asked here.
	reads(t, "create table t ( a int , a int , primary key ( t , t ) )", table([]string{"t", "t"}, a, a))
	columns := strings.Repeat("a int , ", 20)
	reads(t, "create table t ( "+columns+"primary key ( a , b , c , d , e ) )", table(strings.Split("abcde", ""), slices.Repeat([]api.Column{a}, 20)...))
}

// P7.2, P7.4
func TestMakeIndex(t *testing.T) {
	reads(t, "create index i on t ( a )", api.Statement{Kind: api.MakeIndex, Name: "i", Table: "t", Names: []string{"a"}})
	reads(t, "create index x on y ( c , b , a , a , a )", api.Statement{Kind: api.MakeIndex, Name: "x", Table: "y", Names: []string{"c", "b", "a", "a", "a"}})
}

func intOf(n int) api.Expr { return api.Expr{Op: api.Const, Value: api.Value{Kind: api.Int, Int: n}} }

func textOf(s string) api.Expr {
	return api.Expr{Op: api.Const, Value: api.Value{Kind: api.Text, Text: s}}
}

func truthOf(n int) api.Expr {
	return api.Expr{Op: api.Const, Value: api.Value{Kind: api.Truth, Int: n}}
}

func nullOf() api.Expr { return api.Expr{Op: api.Const} }

func col(s string) api.Expr { return api.Expr{Op: api.Named, Name: s} }

func colOf(table, s string) api.Expr { return api.Expr{Op: api.Named, Table: table, Name: s} }

func by(op int, subs ...api.Expr) api.Expr { return api.Expr{Op: op, Subs: subs} }

func row(l ...api.Expr) []api.Expr { return l }

// P7.2, P7.4
func TestInsert(t *testing.T) {
	reads(t, "insert into t values ( 1 )", api.Statement{Kind: api.Insert, Table: "t", Values: row(intOf(1))})
	reads(t, "insert into t values ( null , true , 'x' , a , ( 2 ) )", api.Statement{Kind: api.Insert, Table: "t", Values: row(nullOf(), truthOf(1), textOf("x"), col("a"), intOf(2))})
	reads(t, "insert into t values ( "+strings.Repeat("1 , ", 30)+"1 )", api.Statement{Kind: api.Insert, Table: "t", Values: slices.Repeat(row(intOf(1)), 31)})
}

// P7.2, P7.4
func TestUpdate(t *testing.T) {
	one := []api.Set{{Name: "a", Expr: intOf(1)}}
	two := []api.Set{{Name: "b", Expr: by(api.Equal, col("c"), intOf(2))}, {Name: "a", Expr: col("b")}}
	where := by(api.Less, col("a"), intOf(3))
	reads(t, "update t set a = 1", api.Statement{Kind: api.Update, Table: "t", Sets: one})
	reads(t, "update t set b = c = 2 , a = b", api.Statement{Kind: api.Update, Table: "t", Sets: two})
	reads(t, "update t set a = 1 where a < 3", api.Statement{Kind: api.Update, Table: "t", Sets: one, Where: where})
	reads(t, "update t set b = c = 2 , a = b where a < 3", api.Statement{Kind: api.Update, Table: "t", Sets: two, Where: where})
	reads(t, "update t set "+strings.Repeat("a = 1 , ", 20)+"a = 1", api.Statement{Kind: api.Update, Table: "t", Sets: slices.Repeat(one, 21)})
}

// P7.2, P7.4
func TestDelete(t *testing.T) {
	reads(t, "delete from t", api.Statement{Kind: api.Delete, Table: "t"})
	reads(t, "delete from u where a", api.Statement{Kind: api.Delete, Table: "u", Where: col("a")})
	reads(t, "delete from t where null", api.Statement{Kind: api.Delete, Table: "t", Where: nullOf()})
}

// choice: what may stand in one place of a select, and what it makes of the answer.
type choice struct {
	source string
	put    func(s *api.Statement)
}

func selectChoices() [][]choice {
	none := choice{"", func(*api.Statement) {}}
	return [][]choice{
		{
			{"*", func(*api.Statement) {}},
			{"a", func(s *api.Statement) { s.Values = row(col("a")) }},
			{"1 * 2 , count ( * ) , u . b", func(s *api.Statement) {
				s.Values = row(by(api.Times, intOf(1), intOf(2)), by(api.CountAll), colOf("u", "b"))
			}},
		}, {
			{"from t", func(s *api.Statement) { s.Table = "t" }},
		}, none.or(
			choice{"join u on t . a = u . b", func(s *api.Statement) {
				s.Other, s.On = "u", by(api.Equal, colOf("t", "a"), colOf("u", "b"))
			}},
			choice{"join t on true", func(s *api.Statement) { s.Other, s.On = "t", truthOf(1) }},
		), none.or(
			choice{"where a or b", func(s *api.Statement) { s.Where = by(api.Or, col("a"), col("b")) }},
		), none.or(
			choice{"group by a", func(s *api.Statement) { s.Groups = row(col("a")) }},
			choice{"group by t . a , b , u . c", func(s *api.Statement) { s.Groups = row(colOf("t", "a"), col("b"), colOf("u", "c")) }},
		), none.or(
			choice{"order by 1", func(s *api.Statement) { s.Orders = []api.Order{{Item: 1}} }},
			choice{"order by 0 desc", func(s *api.Statement) { s.Orders = []api.Order{{Item: 0, Down: true}} }},
			choice{"order by 3 , 9223372036854775807 desc , 1 , 3", func(s *api.Statement) {
				s.Orders = []api.Order{{Item: 3}, {Item: math.MaxInt64, Down: true}, {Item: 1}, {Item: 3}}
			}},
		), none.or(
			choice{"limit 0", func(s *api.Statement) { s.Limited = true }},
			choice{"limit 5", func(s *api.Statement) { s.Limited, s.Limit = true, 5 }},
			choice{"limit 9223372036854775807", func(s *api.Statement) { s.Limited, s.Limit = true, math.MaxInt64 }},
		),
	}
}

func (c choice) or(more ...choice) []choice { return append([]choice{c}, more...) }

// P7.2, P7.4: a select with each part, and without.
func TestSelect(t *testing.T) {
	l := []choice{{"select", func(s *api.Statement) { s.Kind = api.Select }}}
	for _, choices := range selectChoices() {
		var longer []choice
		for _, first := range l {
			for _, c := range choices {
				longer = append(longer, choice{first.source + " " + c.source, func(s *api.Statement) {
					first.put(s)
					c.put(s)
				}})
			}
		}
		l = longer
	}
	for _, c := range l {
		var want api.Statement
		c.put(&want)
		reads(t, c.source, want)
	}
	if len(l) != 3*3*2*3*4*4 {
		t.Errorf("%d selects were read", len(l))
	}
}

// P7.2, P7.3: the parts of a select stand in their order, each once.
func TestSelectPartsInOrder(t *testing.T) {
	parts := []string{"join u on a", "where a", "group by a", "order by 1", "limit 1"}
	for i, first := range parts {
		for j, second := range parts {
			s := "select * from t " + first + " " + second
			if i < j {
				l := cut(t, s)
				if _, at, code := Parse(l); code != api.OK {
					t.Errorf("Parse(%s): %d, %d", told(l), at, code)
				}
				continue
			}
			refuses(t, s, 4+len(cut(t, first)), api.ErrForm)
		}
	}
}

// P7.3: each token that ends a statement early.
func TestShort(t *testing.T) {
	parseRefuses(t, nil, 0, api.ErrShort)
	parseRefuses(t, []api.Token{}, 0, api.ErrShort)
	for _, s := range []string{
		"create", "create table", "create table t", "create table t (", "create table t ( a", "create table t ( a int", "create table t ( a int not",
		"create table t ( a int not null", "create table t ( a int ,", "create table t ( a int , b", "create table t ( a int , primary", "create table t ( a int , primary key",
		"create table t ( a int , primary key (", "create table t ( a int , primary key ( a", "create table t ( a int , primary key ( a ,", "create table t ( a int , primary key ( a )",
		"create index", "create index i", "create index i on", "create index i on t", "create index i on t (", "create index i on t ( a", "create index i on t ( a ,",
		"insert", "insert into", "insert into t", "insert into t values", "insert into t values (", "insert into t values ( 1", "insert into t values ( 1 ,", "insert into t values ( ( 1 )",
		"update", "update t", "update t set", "update t set a", "update t set a =", "update t set a = 1 ,", "update t set a = 1 , b", "update t set a = 1 where",
		"delete", "delete from", "delete from t where",
		"select", "select *", "select a", "select a ,", "select a .", "select * from", "select * from t join", "select * from t join u", "select * from t join u on",
		"select * from t where", "select * from t group", "select * from t group by", "select * from t group by a ,", "select * from t group by a .",
		"select * from t order", "select * from t order by", "select * from t order by 1 ,", "select * from t order by 1 desc ,", "select * from t limit",
		"delete from t where not", "delete from t where -", "delete from t where (", "delete from t where ( a", "delete from t where a or", "delete from t where a and",
		"delete from t where a +", "delete from t where a *", "delete from t where a <=", "delete from t where a is", "delete from t where a is not",
		"select count", "select count (", "select count ( *", "select count ( a", "select sum", "select sum (", "select sum ( a", "select max ( a )",
	} {
		endsEarly(t, s)
	}
}

// P7.3: each token that nothing goes on with, wherever the tokens behind it lead.
func TestForm(t *testing.T) {
	for _, c := range []struct {
		ahead, behind string
	}{
		{"", "a"}, {"", "1"}, {"", "'select'"}, {"", "( select * from t )"}, {"", "table t"}, {"", "from t"}, {"", "selects * from t"}, {"", "values ( 1 )"},
		{"create", "t"}, {"create", "'table' t"}, {"create", "create table t"}, {"create table t", "a int"}, {"create table t (", ")"}, {"create table t (", "primary key ( a ) )"},
		{"create table t ( a", ", primary key ( a ) )"}, {"create table t ( a", "integer"}, {"create table t ( a", "null"}, {"create table t ( a", "'int'"},
		{"create table t ( a int", ")"}, {"create table t ( a int", "null"}, {"create table t ( a int", "primary key ( a ) )"}, {"create table t ( a int", "text"},
		{"create table t ( a int not", ", b int"}, {"create table t ( a int not null", "not null"}, {"create table t ( a int ,", ")"}, {"create table t ( a int ,", ", b int"},
		{"create table t ( a int , primary", "int"}, {"create table t ( a int , primary", "( a ) )"}, {"create table t ( a int , primary key", "a"}, {"create table t ( a int , primary key (", ") )"},
		{"create table t ( a int , primary key ( a", "b ) )"}, {"create table t ( a int , primary key ( a", ". b ) )"}, {"create table t ( a int , primary key ( a ,", ") )"},
		{"create table t ( a int , primary key ( a )", ", b int )"}, {"create table t ( a int , primary key ( a )", "primary key ( a ) )"}, {"create table t ( a int , primary key ( a ) )", ")"},
		{"create index i", "( a )"}, {"create index i", "from t ( a )"}, {"create index i on t", "a"}, {"create index i on t", ". b ( a )"}, {"create index i on t (", ")"},
		{"create index i on t ( a", "+ b )"}, {"create index i on t ( a", "desc )"}, {"create index i on t ( a )", ", b"}, {"create index i on t ( a )", "where a"},
		{"insert", "t values ( 1 )"}, {"insert into t", "( a ) values ( 1 )"}, {"insert into t", "select * from t"}, {"insert into t values", "1"}, {"insert into t values (", ")"},
		{"insert into t values (", "* )"}, {"insert into t values (", ", 1 )"}, {"insert into t values ( 1", "2 )"}, {"insert into t values ( 1 ,", ")"}, {"insert into t values ( 1 )", ", ( 2 )"}, {"insert into t values ( 1 )", "where a"},
		{"update t", "a = 1"}, {"update t", ". b set a = 1"}, {"update t set", "where a"}, {"update t set a", "1"}, {"update t set a", "<> 1"}, {"update t set a", ". b = 1"}, {"update t set a =", "where a"},
		{"update t set a = 1", "b = 2"}, {"update t set a = 1 ,", "where a"}, {"update t set a = b = 1", "= 2"}, {"update t set a = 1 where a", ", b = 2"}, {"update t set a = 1 where a", "where b"},
		{"delete", "t"}, {"delete", "* from t"}, {"delete from t", "t"}, {"delete from t", ", u"}, {"delete from t", "join u on a"}, {"delete from t where", "where a"}, {"delete from t where a", "limit 1"},
		{"select", "from t"}, {"select", ", a from t"}, {"select *", ", a from t"}, {"select *", "+ 1 from t"}, {"select *", "a from t"}, {"select a ,", "from t"}, {"select a ,", "* from t"}, {"select a", "b from t"}, {"select a", "where a"},
		{"select * from t", ", u"}, {"select * from t", "u"}, {"select * from t", ". u"}, {"select * from t", "on a"}, {"select * from t", "by a"}, {"select * from t", "desc"},
		{"select * from t join u", "where a"}, {"select * from t join u", "join x on a"}, {"select * from t join u on a", "join x on a"}, {"select * from t join u on", "where a"},
		{"select * from t group", "a"}, {"select * from t group by", "1"}, {"select * from t group by", "( a )"}, {"select * from t group by a", "+ 1"}, {"select * from t group by a", "b"}, {"select * from t group by a ,", "order by 1"}, {"select * from t group by a", "desc"},
		{"select * from t order", "1"}, {"select * from t order by", "a"}, {"select * from t order by", "- 1"}, {"select * from t order by", "desc"}, {"select * from t order by 1", "2"}, {"select * from t order by 1 desc", "desc"}, {"select * from t order by 1 ,", "limit 1"},
		{"select * from t limit", "a"}, {"select * from t limit", "- 1"}, {"select * from t limit", "( 1 )"}, {"select * from t limit 1", "+ 1"}, {"select * from t limit 1", "2"}, {"select * from t limit 1", ", 2"},
	} {
		refuses(t, c.ahead+" "+c.behind, len(cut(t, c.ahead)), api.ErrForm)
	}
}

// P7.3: a token too many behind a whole statement.
func TestTokenTooMany(t *testing.T) {
	for _, s := range samples() {
		l := cut(t, s)
		for _, token := range []api.Token{mark(")"), word("select"), word("t"), word("values"), number(1), quoted("x"), word("from"), mark("(")} {
			parseRefuses(t, append(slices.Clone(l), token), len(l), api.ErrForm)
			parseRefuses(t, slices.Concat(l, []api.Token{token}, l), len(l), api.ErrForm)
		}
	}
}

// P7.2: a Quote with a Word's or a Mark's text is neither.
func TestQuoteIsNoWord(t *testing.T) {
	rules := rulesOf(grammar)
	for _, s := range samples() {
		l := cut(t, s)
		for i, token := range l {
			l[i] = quoted(token.Text)
			checkByTheGrammar(t, rules, l)
			l[i] = token
		}
	}
	refuses(t, "'select' * from t", 0, api.ErrForm)
	refuses(t, "delete from 't'", 2, api.ErrForm)
	refuses(t, "insert into t values '(' 1 )", 4, api.ErrForm)
	refuses(t, "insert into t values ( 1 ')'", 6, api.ErrForm)
	refuses(t, "select a ',' b from t", 2, api.ErrForm)
	refuses(t, "select a from t limit '1'", 5, api.ErrForm)
	refuses(t, "select a from t order by 1 'desc'", 7, api.ErrForm)
	reads(t, "select '*' from t", api.Statement{Kind: api.Select, Table: "t", Values: row(textOf("*"))})
	reads(t, "select count ( '*' ) from t", api.Statement{Kind: api.Select, Table: "t", Values: row(by(api.Count, textOf("*")))})
}

// badTokens: such as may not be.
func badTokens() []api.Token {
	return []api.Token{
		{}, {Kind: -1}, {Kind: 5, Text: "a"}, {Kind: math.MaxInt64}, {Kind: math.MinInt64}, word(""), word("A"), word("SELECT"), word("1a"), word("a b"), word("("), word(strings.Repeat("a", api.MaxName+1)),
		{Kind: api.Word, Int: 1, Text: "select"}, number(-1), number(math.MinInt64), {Kind: api.Number, Text: "1"}, quoted("\xff"), quoted(strings.Repeat("a", api.MaxText+1)),
		{Kind: api.Quote, Int: 1}, mark(""), mark("=="), mark("!="), mark("select"), {Kind: api.Mark, Int: 1, Text: "("},
	}
}

// P7.3: which error is told where several apply.
func TestFirstError(t *testing.T) {
	for _, bad := range badTokens() {
		parseRefuses(t, []api.Token{bad}, 0, api.ErrForm)
		for _, s := range samples() {
			l := cut(t, s)
			for i := range len(l) + 1 {
				// In a statement, for one of its tokens, and behind what would have to go on.
				parseRefuses(t, slices.Insert(slices.Clone(l), i, bad), i, api.ErrForm)
				parseRefuses(t, append(slices.Clone(l[:i]), bad), i, api.ErrForm)
				// Behind a token that no statement goes on with, and ahead of it.
				wrong := append(cut(t, "select from"), l[:i]...)
				parseRefuses(t, append(wrong, bad), len(wrong), api.ErrForm)
				parseRefuses(t, slices.Concat(wrong, []api.Token{bad}, wrong, []api.Token{bad}), len(wrong), api.ErrForm)
				parseRefuses(t, slices.Concat(l[:i], []api.Token{bad}, wrong), i, api.ErrForm)
			}
		}
		// Too many is told first of all.
		parseRefuses(t, append(of(api.MaxTokens-1, word("a")), bad), api.MaxTokens-1, api.ErrForm)
		parseRefuses(t, append(of(api.MaxTokens, word("a")), bad), 0, api.ErrFull)
		parseRefuses(t, append([]api.Token{bad}, of(api.MaxTokens, word("a"))...), 0, api.ErrFull)
		parseRefuses(t, of(api.MaxTokens+1, bad), 0, api.ErrFull)
	}
	// The first token that nothing goes on with, though more of them follow, or nothing does.
	refuses(t, "select from where limit", 1, api.ErrForm)
	refuses(t, "select * from where", 3, api.ErrForm)
	refuses(t, "delete from t where 1 = 2 =", 7, api.ErrForm)
}

// MaxTokens tokens, and one more.
func checkFull(t *testing.T, l []api.Token, want api.Statement) {
	t.Helper()
	if len(l) != api.MaxTokens {
		t.Fatalf("%d tokens", len(l))
	}
	checkParse(t, l, want)
	parseRefuses(t, l[:len(l)-1], api.MaxTokens-1, api.ErrShort)
	parseRefuses(t, append(slices.Clone(l), l[len(l)-1]), 0, api.ErrFull)
	parseRefuses(t, append([]api.Token{l[0]}, l...), 0, api.ErrFull)
}

// P7.3: MaxTokens tokens in rows.
func TestMaxTokensInRows(t *testing.T) {
	size := api.MaxTokens
	more := cut(t, "1 + ")
	l := slices.Concat(cut(t, "delete from t where -"), slices.Repeat(more, (size-6)/2), cut(t, "1"))
	sum := by(api.Neg, intOf(1))
	for range (size - 6) / 2 {
		sum = by(api.Plus, sum, intOf(1))
	}
	checkFull(t, l, api.Statement{Kind: api.Delete, Table: "t", Where: sum})
	l = slices.Concat(cut(t, "insert into t values ( -"), slices.Repeat(cut(t, "1 ,"), (size-8)/2), cut(t, "1 )"))
	values := append(row(by(api.Neg, intOf(1))), slices.Repeat(row(intOf(1)), (size-8)/2)...)
	checkFull(t, l, api.Statement{Kind: api.Insert, Table: "t", Values: values})
	l = slices.Concat(cut(t, "create index i on t ("), slices.Repeat(cut(t, "a ,"), (size-8)/2), cut(t, "b )"))
	names := append(slices.Repeat([]string{"a"}, (size-8)/2), "b")
	checkFull(t, l, api.Statement{Kind: api.MakeIndex, Name: "i", Table: "t", Names: names})
}

// P7.3: MaxTokens tokens within each other; how deep they lie is not asked here.
func TestMaxTokensDeep(t *testing.T) {
	size := api.MaxTokens
	head := cut(t, "delete from t where")
	for _, c := range []struct {
		token api.Token
		op    int
	}{{word("not"), api.Not}, {mark("-"), api.Neg}} {
		want := col("a")
		for range size - 5 {
			want = by(c.op, want)
		}
		checkFull(t, slices.Concat(head, of(size-5, c.token), cut(t, "a")), api.Statement{Kind: api.Delete, Table: "t", Where: want})
	}
	pairs := (size - 6) / 2
	l := slices.Concat(head, cut(t, "-"), of(pairs, mark("(")), cut(t, "a"), of(pairs, mark(")")))
	checkFull(t, l, api.Statement{Kind: api.Delete, Table: "t", Where: by(api.Neg, col("a"))})
	parseRefuses(t, append(slices.Clone(head), of(size-4, mark("("))...), size, api.ErrShort)
	parseRefuses(t, append(slices.Clone(head), of(size-3, mark("("))...), 0, api.ErrFull)
	parseRefuses(t, of(size, mark("(")), 0, api.ErrForm)
	parseRefuses(t, of(size+1, mark("(")), 0, api.ErrFull)
	parseRefuses(t, of(1<<20, word("select")), 0, api.ErrFull)
	// No ) is left over.
	parseRefuses(t, slices.Concat(head, of(9, mark("(")), cut(t, "a"), of(10, mark(")"))), 23, api.ErrForm)
}
