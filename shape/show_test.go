package shape

import (
	"math"
	"slices"
	"strings"
	"testing"

	"commonhold/api"
	"commonhold/parse"
)

// checkShow: the tokens are those, and are read as the statement was.
func checkShow(t *testing.T, s api.Statement, want []api.Token) {
	t.Helper()
	l, code := Show(s)
	if code != api.OK || !slices.Equal(l, want) {
		t.Errorf("Show(%s): %s, %d; want %s", brief(s), told(l), code, told(want))
		return
	}
	if again, at, code := parse.Parse(l); code != api.OK || !same(again, s) {
		t.Errorf("Show(%s): %s, which is read as %s, %d, %d", brief(s), told(l), brief(again), at, code)
	}
}

// showsAs: how the statement of a source is shown.
func showsAs(t *testing.T, source, want string) {
	t.Helper()
	checkShow(t, read(t, source), cut(t, want))
}

// shows: the statement of a source is shown as the source has it.
func shows(t *testing.T, source string) {
	t.Helper()
	showsAs(t, source, source)
}

func showRefuses(t *testing.T, s api.Statement, want api.Errno) {
	t.Helper()
	if l, code := Show(s); len(l) != 0 || code != want {
		t.Errorf("Show(%s): %s, %d; want nothing, %d", brief(s), told(l), code, want)
	}
}

// P8.4
func TestShowMakeTable(t *testing.T) {
	shows(t, "create table t ( a int , primary key ( a ) )")
	shows(t, "create table t ( a truth not null , primary key ( b ) )")
	shows(t, "create table u ( a truth , b int not null , c text , primary key ( c , b ) )")
	shows(t, "create table twelve_bytes ( a text not null , b text , c int , d truth , e truth not null , f int not null , primary key ( f , a , c ) )")
}

// P8.4
func TestShowMakeIndex(t *testing.T) {
	shows(t, "create index i on t ( a )")
	shows(t, "create index i on t ( c , a , b )")
	checkShow(t, api.Statement{Kind: api.MakeIndex, Name: "x", Table: "y", Names: []string{"z"}}, cut(t, "create index x on y ( z )"))
}

// P8.4
func TestShowInsert(t *testing.T) {
	shows(t, "insert into t values ( 1 )")
	shows(t, "insert into t values ( null , true , false , 0 , 9223372036854775807 , '' , 'it''s' , - 3 )")
	showsAs(t, "insert into t values ( ( 1 + 2 ) , ( ( a ) ) )", "insert into t values ( 1 + 2 , a )")
}

// P8.4
func TestShowUpdate(t *testing.T) {
	shows(t, "update t set a = 1")
	shows(t, "update t set a = b = 1 , b = not c , c = a or b")
	shows(t, "update t set a = 1 where a")
	shows(t, "update t set a = 1 , b = 2 where a = 1 or b = 2")
	showsAs(t, "update t set a = ( b = 1 ) where ( a )", "update t set a = b = 1 where a")
}

// P8.4
func TestShowDelete(t *testing.T) {
	shows(t, "delete from t")
	shows(t, "delete from t where a")
	shows(t, "delete from t where null")
	shows(t, "delete from t where not a is null and t . b >= 'x'")
}

// P8.4: each part of a select, and none, in all ways.
func TestShowSelect(t *testing.T) {
	l := []string{"select"}
	for _, choices := range [][]string{
		{"*", "a", "1 * 2 , count ( * ) , u . b , ( a or b ) = c"},
		{"from t"},
		{"", "join u on t . a = u . b", "join t on a or b"},
		{"", "where a or b", "where not ( a or b )"},
		{"", "group by a", "group by t . a , b , u . c"},
		{"", "order by 1", "order by 0 desc", "order by 3 , 9223372036854775807 desc , 1 , 3"},
		{"", "limit 0", "limit 5", "limit 9223372036854775807"},
	} {
		var longer []string
		for _, first := range l {
			for _, c := range choices {
				longer = append(longer, first+" "+c)
			}
		}
		l = longer
	}
	for _, s := range l {
		shows(t, s)
	}
	if len(l) != 3*3*3*3*4*4 {
		t.Errorf("%d selects were shown", len(l))
	}
}

// P8.4: each Const and each Named is one token, or three.
func TestShowOnes(t *testing.T) {
	word := func(s string) api.Token { return api.Token{Kind: api.Word, Text: s} }
	mark := func(s string) api.Token { return api.Token{Kind: api.Mark, Text: s} }
	for _, c := range []struct {
		e    api.Expr
		want []api.Token
	}{
		{nullOf(), []api.Token{word("null")}},
		{truthOf(0), []api.Token{word("false")}},
		{truthOf(1), []api.Token{word("true")}},
		{intOf(0), []api.Token{{Kind: api.Number}}},
		{intOf(math.MaxInt64), []api.Token{{Kind: api.Number, Int: math.MaxInt64}}},
		{textOf(""), []api.Token{{Kind: api.Quote}}},
		{textOf("it's"), []api.Token{{Kind: api.Quote, Text: "it's"}}},
		{textOf("null"), []api.Token{{Kind: api.Quote, Text: "null"}}},
		{textOf(strings.Repeat("é", 20)), []api.Token{{Kind: api.Quote, Text: strings.Repeat("é", 20)}}},
		{col("nulls"), []api.Token{word("nulls")}},
		{colOf("t", "a"), []api.Token{word("t"), mark("."), word("a")}},
		{by(api.CountAll), []api.Token{word("count"), mark("("), mark("*"), mark(")")}},
		{by(api.Count, col("a")), []api.Token{word("count"), mark("("), word("a"), mark(")")}},
		{by(api.Sum, col("a")), []api.Token{word("sum"), mark("("), word("a"), mark(")")}},
		{by(api.Min, col("a")), []api.Token{word("min"), mark("("), word("a"), mark(")")}},
		{by(api.Max, col("a")), []api.Token{word("max"), mark("("), word("a"), mark(")")}},
		{by(api.Neg, intOf(1)), []api.Token{mark("-"), {Kind: api.Number, Int: 1}}},
		{by(api.Not, col("a")), []api.Token{word("not"), word("a")}},
		{by(api.IsNull, col("a")), []api.Token{word("a"), word("is"), word("null")}},
		{by(api.IsSome, col("a")), []api.Token{word("a"), word("is"), word("not"), word("null")}},
		{by(api.Differ, col("a"), col("b")), []api.Token{word("a"), mark("<>"), word("b")}},
		{by(api.And, col("a"), col("b")), []api.Token{word("a"), word("and"), word("b")}},
	} {
		checkShow(t, api.Statement{Kind: api.Delete, Table: "t", Where: c.e}, append(cut(t, "delete from t where"), c.want...))
		checkShow(t, api.Statement{Kind: api.Insert, Table: "t", Values: exprs(c.e, c.e)}, slices.Concat(cut(t, "insert into t values ("), c.want, cut(t, ","), c.want, cut(t, ")")))
	}
}

// showsExpr: how an expression is shown, wherever one may stand.
func showsExpr(t *testing.T, source, want string) {
	t.Helper()
	for _, around := range [][2]string{
		{"delete from t where ", ""}, {"insert into t values ( 1 , ", " )"}, {"update t set a = ", " where b"}, {"update t set a = 1 where ", ""},
		{"select ", " from t"}, {"select 1 , ", " , 2 from t limit 1"}, {"select * from t join u on ", " where a"}, {"select * from t where ", " group by a"},
	} {
		showsAs(t, around[0]+source+around[1], around[0]+want+around[1])
	}
}

// P8.4: ( ) that are needed, and such as are not.
func TestParentheses(t *testing.T) {
	for _, s := range []string{
		"1 - 2 - 3", "1 - ( 2 - 3 )", "1 - ( 2 + 3 )", "1 + ( 2 + 3 )", "1 + 2 + 3", "( 1 + 2 ) * 3", "1 * ( 2 + 3 )", "1 * 2 + 3", "1 + 2 * 3", "1 / ( 2 * 3 )", "1 / 2 * 3", "1 % ( 2 % 3 )",
		"a or b or c", "a or ( b or c )", "a and ( b and c )", "a and b and c", "( a or b ) and c", "a and ( b or c )", "a and b or c and d", "a or b and c",
		"- - 1", "- - - a", "- ( 1 + 2 )", "- ( a * b )", "- a * b", "a * - b", "a - - b", "- a - b", "a - ( - b - c )", "- ( a = b )", "- ( not a )", "- ( a is null )",
		"not a", "not not a", "not ( a or b )", "not ( a and b )", "not a and b", "a and not b", "not a or not b", "not a = b", "not a is null", "not a + b", "( not a ) = b", "a = ( not b )", "( not a ) is null", "( not a ) + b", "a + ( not b )", "( not a ) * b", "a and not b or c", "not ( not a and b )",
		"( a is null ) is null", "( a is not null ) is null", "( a = b ) is null", "( a is null ) = b", "a = ( b is null )", "( a = b ) = c", "a = ( b = c )", "( a < b ) < ( c < d )", "a + b = c * d", "a + b is null", "- a is null", "( a or b ) is null", "( a and b ) = c", "a = ( b or c )", "( a = b ) + c", "a * ( b <> c )", "a = b and c <> d or e is null",
		"count ( * ) + 1", "count ( a or b )", "sum ( a + b ) * 2", "min ( not a ) is null", "- max ( - a )", "max ( count ( * ) )", "not count ( a = b ) = 1",
	} {
		showsExpr(t, s, s)
		showsExpr(t, "( "+s+" )", s)
		showsExpr(t, "( ( "+s+" ) )", s)
	}
	for source, want := range map[string]string{
		"( 1 - 2 ) - 3":                   "1 - 2 - 3",
		"( 1 * 2 ) + ( 3 * 4 )":           "1 * 2 + 3 * 4",
		"( a and b ) or ( c and d )":      "a and b or c and d",
		"( a or b ) or c":                 "a or b or c",
		"( not a ) and ( not b )":         "not a and not b",
		"not ( not ( a ) )":               "not not a",
		"not ( a = b )":                   "not a = b",
		"- ( - ( a ) )":                   "- - a",
		"( - a ) * ( - b )":               "- a * - b",
		"( a + b ) = ( c - d )":           "a + b = c - d",
		"( a = b ) and ( c is null )":     "a = b and c is null",
		"( ( a + b ) ) is not null":       "a + b is not null",
		"( t . a ) + ( 'x' )":             "t . a + 'x'",
		"count ( ( a ) )":                 "count ( a )",
		"sum ( ( ( a + 1 ) ) )":           "sum ( a + 1 )",
		"( ( ( ( a ) or ( b ) ) ) )":      "a or b",
		"( ( 1 ) - ( ( 2 ) - ( 3 ) ) )":   "1 - ( 2 - 3 )",
		"( count ( * ) ) * ( max ( a ) )": "count ( * ) * max ( a )",
	} {
		showsExpr(t, source, want)
	}
}

// level: how tightly two parts and their operator go together, as P7.2 has it.
func level(sign string) int {
	for i, l := range []string{"or", "and", "= <> < <= > >=", "+ -", "* / %"} {
		if slices.Contains(strings.Fields(l), sign) {
			return i
		}
	}
	return -1
}

const tests = 2

// opBySign: as P7.5 names them.
func opBySign() map[string]int {
	return map[string]int{
		"+": api.Plus, "-": api.Minus, "*": api.Times, "/": api.Over, "%": api.Rest,
		"=": api.Equal, "<>": api.Differ, "<": api.Less, "<=": api.Most, ">": api.More, ">=": api.Least, "and": api.And, "or": api.Or,
	}
}

// P8.4: each operator within each, on the left and on the right.
func TestOperatorsWithinOperators(t *testing.T) {
	ops := opBySign()
	where := func(e api.Expr, source string) {
		t.Helper()
		checkShow(t, api.Statement{Kind: api.Delete, Table: "t", Where: e}, cut(t, "delete from t where "+source))
	}
	a, b, c := col("a"), col("b"), col("c")
	for inner, in := range ops {
		where(by(in, a, b), "a "+inner+" b")
		for outer, out := range ops {
			i, o := level(inner), level(outer)
			left, right := "( a "+inner+" b ) "+outer+" c", "c "+outer+" ( a "+inner+" b )"
			// On the left the same level will do, but for tests.
			if i > o || i == o && o != tests {
				left = "a " + inner + " b " + outer + " c"
			}
			if i > o {
				right = "c " + outer + " a " + inner + " b"
			}
			where(by(out, by(in, a, b), c), left)
			where(by(out, c, by(in, a, b)), right)
		}
	}
}

// fully: an expression with ( ) about each part, as a source.
func fully(t *testing.T, e api.Expr) string {
	t.Helper()
	var l []string
	for _, sub := range e.Subs {
		l = append(l, fully(t, sub))
	}
	var s string
	switch e.Op {
	case api.Const, api.Named:
		tokens, code := Show(api.Statement{Kind: api.Select, Table: "t", Values: exprs(e)})
		if code != api.OK {
			t.Fatalf("Show of %+v: %d", e, code)
		}
		s = told(tokens[1 : len(tokens)-2])
	case api.Neg:
		s = "- " + l[0]
	case api.Not:
		s = "not " + l[0]
	case api.IsNull:
		s = l[0] + " is null"
	case api.IsSome:
		s = l[0] + " is not null"
	case api.CountAll:
		s = "count ( * )"
	case api.Count:
		s = "count ( " + l[0] + " )"
	case api.Sum:
		s = "sum ( " + l[0] + " )"
	case api.Min:
		s = "min ( " + l[0] + " )"
	case api.Max:
		s = "max ( " + l[0] + " )"
	default:
		for sign, op := range opBySign() {
			if op == e.Op {
				s = l[0] + " " + sign + " " + l[1]
			}
		}
	}
	return "( " + s + " )"
}

// isMark: whether a token is this Mark.
func isMark(token api.Token, s string) bool { return token.Kind == api.Mark && token.Text == s }

// closing: the place of the ) that belongs to the ( at a place.
func closing(l []api.Token, at int) int {
	open := 0
	for i := at; i < len(l); i++ {
		if isMark(l[i], "(") {
			open++
		} else if isMark(l[i], ")") {
			open--
		}
		if open == 0 {
			return i
		}
	}
	return len(l)
}

// withoutPair: tokens without the ( at a place and its ).
func withoutPair(l []api.Token, at int) []api.Token {
	end := closing(l, at)
	return slices.Concat(l[:at], l[at+1:end], l[end+1:])
}

// bare: tokens without each ( ) that does not matter to how they are read.
func bare(s api.Statement, l []api.Token) []api.Token {
	for i := 0; i < len(l); {
		if isMark(l[i], "(") {
			less := withoutPair(l, i)
			if x, _, code := parse.Parse(less); code == api.OK && same(x, s) {
				l = less
				continue
			}
		}
		i++
	}
	return l
}

// checkBare: an expression is shown as what is left of it once each ( ) is taken away that does not matter.
func checkBare(t *testing.T, e api.Expr) {
	t.Helper()
	s := api.Statement{Kind: api.Delete, Table: "t", Where: e}
	l := cut(t, "delete from t where "+fully(t, e))
	if x, at, code := parse.Parse(l); code != api.OK || !same(x, s) {
		t.Fatalf("%s is read as %s, %d, %d", told(l), brief(x), at, code)
	}
	checkShow(t, s, bare(s, l))
}

// P8.4: each expression within each, as each part, and these within some.
func TestFewestParentheses(t *testing.T) {
	some := ways()
	for _, outer := range some {
		checkBare(t, outer(col("a")))
		for _, inner := range some {
			checkBare(t, outer(inner(col("a"))))
		}
	}
	few := []func(api.Expr) api.Expr{}
	for _, op := range []int{api.Or, api.And, api.Less, api.Minus, api.Over} {
		few = append(few, func(e api.Expr) api.Expr { return by(op, e, col("l")) }, func(e api.Expr) api.Expr { return by(op, col("r"), e) })
	}
	for _, op := range []int{api.Not, api.Neg, api.IsNull, api.IsSome, api.Count} {
		few = append(few, func(e api.Expr) api.Expr { return by(op, e) })
	}
	for _, first := range few {
		for _, second := range few {
			for _, third := range few {
				checkBare(t, third(second(first(intOf(7)))))
			}
		}
	}
}

// dice: numbers that do not soon come again, the same ones each time.
type dice uint64

func (d *dice) upTo(n int) int {
	*d = *d*6364136223846793005 + 1442695040888963407
	return int(uint64(*d)>>33) % n
}

// leaf: an expression without parts.
func (d *dice) leaf() api.Expr {
	l := exprs(nullOf(), truthOf(0), truthOf(1), intOf(0), intOf(1<<62), textOf(""), textOf("it's"), textOf(")"), col("a"), col("ands"), colOf("t", "b"), by(api.CountAll))
	return l[d.upTo(len(l))]
}

// expr: an expression with at most so many within each other.
func (d *dice) expr(depth int) api.Expr {
	if depth == 1 || d.upTo(8) == 0 {
		return d.leaf()
	}
	op := api.Neg + d.upTo(api.Max-api.Neg+1)
	var l []api.Expr
	for range partsByOp()[op] {
		l = append(l, d.expr(depth-1))
	}
	return by(op, l...)
}

func (d *dice) exprs(least, most, depth int) []api.Expr {
	var l []api.Expr
	for range least + d.upTo(most-least+1) {
		l = append(l, d.expr(depth))
	}
	return l
}

// orNone: an expression, or none.
func (d *dice) orNone(depth int) api.Expr {
	if d.upTo(2) == 0 {
		return api.Expr{}
	}
	return d.expr(depth)
}

// statement: an insert, an update or a select, thrown together.
func (d *dice) statement(depth int) api.Statement {
	switch d.upTo(3) {
	case 0:
		return api.Statement{Kind: api.Insert, Table: "t", Values: d.exprs(1, api.MaxItems, depth)}
	case 1:
		s := api.Statement{Kind: api.Update, Table: "t", Where: d.orNone(depth)}
		for _, e := range d.exprs(1, api.MaxItems, depth) {
			s.Sets = append(s.Sets, api.Set{Name: "a", Expr: e})
		}
		return s
	}
	s := api.Statement{Kind: api.Select, Table: "t", Values: d.exprs(0, api.MaxItems, depth), On: d.orNone(depth), Where: d.orNone(depth)}
	if s.On.Op != 0 {
		s.Other = "u"
	}
	for range d.upTo(api.MaxItems + 1) {
		s.Orders = append(s.Orders, api.Order{Item: d.upTo(9), Down: d.upTo(2) == 0})
	}
	s.Groups = exprs(col("a"), colOf("t", "b"), col("c"))[:d.upTo(4)]
	if d.upTo(2) == 0 {
		s.Limited, s.Limit = true, d.upTo(3)
	}
	return s
}

// P8.4: expressions thrown together.
func TestThrownExpressions(t *testing.T) {
	d := dice(8)
	for i := range 3000 {
		e := d.expr(2 + i%4)
		// A source with ( ) about all parts must not have too many tokens.
		if len(strings.Fields(fully(t, e))) <= api.MaxTokens-4 {
			checkBare(t, e)
		}
	}
}

// tokensOf: how many tokens a statement has, by what is around its expressions and by what each of these has alone; 0: one alone has too many.
func tokensOf(t *testing.T, s api.Statement) int {
	t.Helper()
	n, tooMany := 0, false
	count := func(e *api.Expr) {
		if e.Op == 0 {
			return
		}
		l, code := Show(api.Statement{Kind: api.Delete, Table: "t", Where: *e})
		tooMany = tooMany || code == api.ErrFull
		n += len(l) - 4 - 1
		*e = nullOf()
	}
	s.Values, s.Sets = slices.Clone(s.Values), slices.Clone(s.Sets)
	for i := range s.Values {
		count(&s.Values[i])
	}
	for i := range s.Sets {
		count(&s.Sets[i].Expr)
	}
	count(&s.On)
	count(&s.Where)
	l, code := Show(s)
	if code != api.OK {
		t.Fatalf("Show of %s: %d", brief(s), code)
	}
	if tooMany {
		return 0
	}
	return n + len(l)
}

// P8.4: statements thrown together are shown and read as they were, or have too many tokens.
func TestThrownStatements(t *testing.T) {
	d := dice(1)
	shown, refused := 0, 0
	for i := range 3000 {
		s := d.statement(1 + i%8)
		if n := tokensOf(t, s); n == 0 || n > api.MaxTokens {
			showRefuses(t, s, api.ErrFull)
			refused++
			continue
		}
		l, code := Show(s)
		if code != api.OK {
			t.Errorf("Show(%s): %d", brief(s), code)
			continue
		}
		checkShow(t, s, bare(s, l))
		shown++
	}
	if shown < 1000 || refused < 100 {
		t.Errorf("%d statements were shown, %d were not", shown, refused)
	}
}

// ofTokens: an expression with so many tokens, from 1 to 42, and with at most 11 expressions within each other.
func ofTokens(n int) api.Expr {
	e := col("a")
	n--
	for n >= 4 && n != 5 {
		e = by(api.Plus, e, colOf("t", "b"))
		n -= 4
	}
	switch n {
	case 1:
		return by(api.Neg, e)
	case 2:
		return by(api.Minus, e, intOf(1))
	case 3:
		return by(api.Minus, e, by(api.Neg, textOf("x")))
	case 5:
		return by(api.Plus, e, by(api.Neg, colOf("t", "b")))
	}
	return e
}

// checkTokens: a statement has so many tokens.
func checkTokens(t *testing.T, s api.Statement, want int) {
	t.Helper()
	checkMay(t, s, true)
	if want > api.MaxTokens {
		showRefuses(t, s, api.ErrFull)
		return
	}
	l, code := Show(s)
	if code != api.OK || len(l) != want {
		t.Errorf("Show(%s): %d tokens, %d; want %d", brief(s), len(l), code, want)
		return
	}
	checkShow(t, s, l)
}

// P8.4: just MaxTokens tokens, one less, one more and many more.
func TestMaxTokens(t *testing.T) {
	if api.MaxTokens != 300 {
		t.Fatal("MaxTokens is another one than this test takes it for")
	}
	thirtySix := slices.Repeat(exprs(ofTokens(36)), 7)
	for more := -2; more <= 2; more++ {
		last := ofTokens(35 + more)
		checkTokens(t, api.Statement{Kind: api.Insert, Table: "t", Values: append(slices.Clone(thirtySix), last)}, 300+more)
		// Seven sets are 3 + 7 * ( 2 + 36 ) + 6; where and 24 tokens behind it make 300.
		var sets []api.Set
		for _, e := range thirtySix {
			sets = append(sets, api.Set{Name: "a", Expr: e})
		}
		checkTokens(t, api.Statement{Kind: api.Update, Table: "t", Sets: sets, Where: ofTokens(24 + more)}, 300+more)
		// With seven items it has 1 + 7 * 36 + 6 + 2 up to the table's name; what stands behind that has 3 + 7, 1 + 19, 3, 4 and 2.
		s := api.Statement{
			Kind: api.Select, Table: "t", Other: "u", On: ofTokens(7), Values: thirtySix, Where: ofTokens(19 + more),
			Groups: exprs(col("a")), Orders: []api.Order{{Item: 1, Down: true}}, Limited: true, Limit: 1,
		}
		checkTokens(t, s, 300+more)
		checkTokens(t, api.Statement{Kind: api.Delete, Table: "t", Where: greatWhere(40 + more)}, 300+more)
	}
	for depth := 9; depth <= api.MaxDepth; depth++ {
		e := bushy(depth)
		for _, s := range places(e) {
			checkMay(t, s, true)
			showRefuses(t, s, api.ErrFull)
		}
	}
}

// greatWhere: an expression with 256 tokens and so many more.
func greatWhere(more int) api.Expr {
	item := by(api.Times, ofTokens(29), ofTokens(29))
	four := by(api.Or, by(api.And, item, item), by(api.And, item, item))
	return by(api.Or, four, ofTokens(more))
}

// P8.4: that it may not be is told first.
func TestShowFirstError(t *testing.T) {
	great := greatWhere(42)
	s := api.Statement{Kind: api.Delete, Table: "t", Where: great}
	showRefuses(t, s, api.ErrFull)
	s.Limit = 1
	showRefuses(t, s, api.ErrForm)
	s.Limit, s.Table = 0, "select"
	showRefuses(t, s, api.ErrForm)
	items := slices.Repeat(exprs(bushy(api.MaxDepth)), api.MaxItems)
	showRefuses(t, api.Statement{Kind: api.Insert, Table: "t", Values: items}, api.ErrFull)
	showRefuses(t, api.Statement{Kind: api.Insert, Table: "t", Values: with(items, 7, intOf(-1))}, api.ErrForm)
	showRefuses(t, api.Statement{Kind: api.Insert, Table: "t", Values: append(items, intOf(1))}, api.ErrForm)
	showRefuses(t, api.Statement{Kind: api.Insert, Table: "t", Values: with(items, 7, bushy(api.MaxDepth+1))}, api.ErrForm)
	showRefuses(t, api.Statement{Kind: api.Select, Table: "t", Values: items, Limited: true, Limit: -1}, api.ErrForm)
	showRefuses(t, api.Statement{Kind: api.Insert, Table: "t", Values: slices.Repeat(exprs(intOf(1)), 400)}, api.ErrForm)
	showRefuses(t, api.Statement{Kind: api.MakeIndex, Name: "i", Table: "t", Names: slices.Repeat([]string{"a"}, 400)}, api.ErrForm)
	showRefuses(t, api.Statement{}, api.ErrForm)
}
