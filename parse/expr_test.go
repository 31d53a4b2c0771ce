package parse

import (
	"math"
	"slices"
	"testing"

	"commonhold/api"
)

// means: what an expression is read as, wherever one may stand.
func means(t *testing.T, source string, want api.Expr) {
	t.Helper()
	reads(t, "delete from t where "+source, api.Statement{Kind: api.Delete, Table: "t", Where: want})
	reads(t, "select "+source+" from t", api.Statement{Kind: api.Select, Table: "t", Values: row(want)})
	reads(t, "select 1 , "+source+" , 2 from t join u on "+source+" where "+source+" limit 1", api.Statement{
		Kind: api.Select, Table: "t", Other: "u", On: want, Where: want, Values: row(intOf(1), want, intOf(2)), Limited: true, Limit: 1,
	})
	reads(t, "insert into t values ( "+source+" )", api.Statement{Kind: api.Insert, Table: "t", Values: row(want)})
	reads(t, "update t set a = "+source+" , b = "+source, api.Statement{Kind: api.Update, Table: "t", Sets: []api.Set{{Name: "a", Expr: want}, {Name: "b", Expr: want}}})
}

// noExpr: behind where, the token at a place of the source is refused.
func noExpr(t *testing.T, source string, place int) {
	t.Helper()
	refuses(t, "delete from t where "+source, 4+place, api.ErrForm)
	refuses(t, "insert into t values ( "+source+" )", 5+place, api.ErrForm)
}

// P7.5
func TestOnes(t *testing.T) {
	means(t, "0", intOf(0))
	means(t, "7", intOf(7))
	means(t, "9223372036854775807", intOf(math.MaxInt64))
	means(t, "''", textOf(""))
	means(t, "'a'", textOf("a"))
	means(t, "'It''s'", textOf("It's"))
	means(t, "'null'", textOf("null"))
	means(t, "'('", textOf("("))
	means(t, "null", nullOf())
	means(t, "true", truthOf(1))
	means(t, "false", truthOf(0))
	means(t, "a", col("a"))
	means(t, "nulls", col("nulls"))
	means(t, "t . a", colOf("t", "a"))
	means(t, "a . a", colOf("a", "a"))
	means(t, "( 1 )", intOf(1))
	means(t, "( ( ( t . a ) ) )", colOf("t", "a"))
	noExpr(t, "a . b . c", 3)
	noExpr(t, "a . ( b )", 2)
	noExpr(t, "( a ) . b", 3)
	noExpr(t, "a . *", 2)
	noExpr(t, ". a", 0)
	noExpr(t, "a b", 1)
	noExpr(t, "1 2", 1)
	noExpr(t, "null null", 1)
	noExpr(t, "null . a", 1)
	noExpr(t, "( )", 1)
	noExpr(t, "( a , b )", 2)
	noExpr(t, "a ( b )", 1)
	noExpr(t, "desc", 0)
	noExpr(t, "int", 0)
	noExpr(t, "unknown is true", 2)
}

// P7.5
func TestGroupOnes(t *testing.T) {
	means(t, "count ( * )", by(api.CountAll))
	for name, op := range map[string]int{"count": api.Count, "sum": api.Sum, "min": api.Min, "max": api.Max} {
		means(t, name+" ( a )", by(op, col("a")))
		means(t, name+" ( ( a ) )", by(op, col("a")))
		means(t, name+" ( not a or b = 1 )", by(op, by(api.Or, by(api.Not, col("a")), by(api.Equal, col("b"), intOf(1)))))
		means(t, name+" ( count ( * ) )", by(op, by(api.CountAll)))
		means(t, "- "+name+" ( a ) * 2", by(api.Times, by(api.Neg, by(op, col("a"))), intOf(2)))
		means(t, name+" ( a ) = "+name+" ( b )", by(api.Equal, by(op, col("a")), by(op, col("b"))))
		noExpr(t, name+" a", 1)
		noExpr(t, name+" . a", 1)
		noExpr(t, name+" * 1", 1)
		noExpr(t, name+" ( )", 2)
		noExpr(t, name+" ( a , b )", 3)
		noExpr(t, name+" ( a ) . b", 4)
		noExpr(t, name+" ( a ) ( b )", 4)
		noExpr(t, name+" ( ( * ) )", 3)
		noExpr(t, name+" ( - * )", 3)
		if name != "count" {
			noExpr(t, name+" ( * )", 2)
		}
	}
	noExpr(t, "count ( * + 1 )", 3)
	noExpr(t, "count ( * , a )", 3)
	noExpr(t, "count ( * * )", 3)
}

// levels: the operators between two parts, those that bind less tightly first; of the tests none stands behind another.
func levels() [][]string {
	return [][]string{{"or"}, {"and"}, {"=", "<>", "<", "<=", ">", ">="}, {"+", "-"}, {"*", "/", "%"}}
}

const tests = 2

// opBySign: as P7.5 names them.
func opBySign() map[string]int {
	return map[string]int{
		"+": api.Plus, "-": api.Minus, "*": api.Times, "/": api.Over, "%": api.Rest,
		"=": api.Equal, "<>": api.Differ, "<": api.Less, "<=": api.Most, ">": api.More, ">=": api.Least, "and": api.And, "or": api.Or,
	}
}

// P7.5: each operator alone, and each two behind each other, with and without ( ).
func TestTwoOperators(t *testing.T) {
	ops := opBySign()
	a, b, c := col("a"), col("b"), col("c")
	for i, firsts := range levels() {
		for _, first := range firsts {
			f := ops[first]
			means(t, "a "+first+" b", by(f, a, b))
			means(t, "( a "+first+" b )", by(f, a, b))
			means(t, "( a ) "+first+" ( b )", by(f, a, b))
			for j, seconds := range levels() {
				for _, second := range seconds {
					s := ops[second]
					left, right := by(s, by(f, a, b), c), by(f, a, by(s, b, c))
					means(t, "( a "+first+" b ) "+second+" c", left)
					means(t, "a "+first+" ( b "+second+" c )", right)
					bare := "a " + first + " b " + second + " c"
					switch {
					case i == tests && j == tests:
						noExpr(t, bare, 3)
					case i >= j:
						means(t, bare, left)
					default:
						means(t, bare, right)
					}
				}
			}
		}
	}
}

// P7.5: of several at one level the first two go together first.
func TestSeveralOfOneLevel(t *testing.T) {
	one, two, three, four := intOf(1), intOf(2), intOf(3), intOf(4)
	means(t, "1 - 2 - 3", by(api.Minus, by(api.Minus, one, two), three))
	means(t, "1 - ( 2 - 3 )", by(api.Minus, one, by(api.Minus, two, three)))
	means(t, "1 - 2 + 3 - 4", by(api.Minus, by(api.Plus, by(api.Minus, one, two), three), four))
	means(t, "1 / 2 * 3 % 4", by(api.Rest, by(api.Times, by(api.Over, one, two), three), four))
	means(t, "1 or 2 or 3 or 4", by(api.Or, by(api.Or, by(api.Or, one, two), three), four))
	means(t, "1 and 2 and 3 and 4", by(api.And, by(api.And, by(api.And, one, two), three), four))
	means(t, "1 and 2 or 3 and 4", by(api.Or, by(api.And, one, two), by(api.And, three, four)))
	means(t, "1 or 2 and 3 or 4", by(api.Or, by(api.Or, one, by(api.And, two, three)), four))
	means(t, "1 * 2 - 3 * 4", by(api.Minus, by(api.Times, one, two), by(api.Times, three, four)))
	means(t, "1 - 2 * 3 - 4", by(api.Minus, by(api.Minus, one, by(api.Times, two, three)), four))
	means(t, "( 1 - 2 ) - ( 3 - 4 )", by(api.Minus, by(api.Minus, one, two), by(api.Minus, three, four)))
}

// P7.5
func TestNot(t *testing.T) {
	a, b := col("a"), col("b")
	not := func(e api.Expr) api.Expr { return by(api.Not, e) }
	means(t, "not a", not(a))
	means(t, "not not a", not(not(a)))
	means(t, "not not not a", not(not(not(a))))
	means(t, "not ( not a )", not(not(a)))
	means(t, "not a or b", by(api.Or, not(a), b))
	means(t, "not a and not b", by(api.And, not(a), not(b)))
	means(t, "not ( a and b )", not(by(api.And, a, b)))
	means(t, "a or not b", by(api.Or, a, not(b)))
	means(t, "not a = b", not(by(api.Equal, a, b)))
	means(t, "( not a ) = b", by(api.Equal, not(a), b))
	means(t, "a = ( not b )", by(api.Equal, a, not(b)))
	means(t, "not a is null", not(by(api.IsNull, a)))
	means(t, "( not a ) is null", by(api.IsNull, not(a)))
	means(t, "not a + b", not(by(api.Plus, a, b)))
	means(t, "not - a", not(by(api.Neg, a)))
	noExpr(t, "a = not b", 2)
	noExpr(t, "a + not b", 2)
	noExpr(t, "a * not b", 2)
	noExpr(t, "- not a", 1)
	noExpr(t, "a not b", 1)
	noExpr(t, "not or a", 1)
	noExpr(t, "not not and a", 2)
}

// P7.5
func TestMinus(t *testing.T) {
	a, b := col("a"), col("b")
	neg := func(e api.Expr) api.Expr { return by(api.Neg, e) }
	means(t, "- 1", neg(intOf(1)))
	means(t, "- - 1", neg(neg(intOf(1))))
	means(t, "- - - a", neg(neg(neg(a))))
	means(t, "- ( - a )", neg(neg(a)))
	means(t, "a - b", by(api.Minus, a, b))
	means(t, "a - - b", by(api.Minus, a, neg(b)))
	means(t, "a - - - b", by(api.Minus, a, neg(neg(b))))
	means(t, "- a - b", by(api.Minus, neg(a), b))
	means(t, "- ( a - b )", neg(by(api.Minus, a, b)))
	means(t, "- a * b", by(api.Times, neg(a), b))
	means(t, "- ( a * b )", neg(by(api.Times, a, b)))
	means(t, "a * - b", by(api.Times, a, neg(b)))
	means(t, "- a . b", neg(colOf("a", "b")))
	means(t, "- a = - b", by(api.Equal, neg(a), neg(b)))
	means(t, "- a is null", by(api.IsNull, neg(a)))
	means(t, "- ( a is null )", neg(by(api.IsNull, a)))
	means(t, "- null", neg(nullOf()))
	means(t, "- 9223372036854775807", neg(intOf(math.MaxInt64)))
	noExpr(t, "+ a", 0)
	noExpr(t, "a + + b", 2)
	noExpr(t, "- + a", 1)
	noExpr(t, "a - * b", 2)
	noExpr(t, "a * / b", 2)
}

// P7.5
func TestIsNull(t *testing.T) {
	a, b := col("a"), col("b")
	means(t, "a is null", by(api.IsNull, a))
	means(t, "a is not null", by(api.IsSome, a))
	means(t, "null is null", by(api.IsNull, nullOf()))
	means(t, "a + b is null", by(api.IsNull, by(api.Plus, a, b)))
	means(t, "a + ( b is null )", by(api.Plus, a, by(api.IsNull, b)))
	means(t, "a is not null and b is null or a", by(api.Or, by(api.And, by(api.IsSome, a), by(api.IsNull, b)), a))
	means(t, "( a is null ) is not null", by(api.IsSome, by(api.IsNull, a)))
	means(t, "( a = b ) is null", by(api.IsNull, by(api.Equal, a, b)))
	means(t, "( a is null ) = ( b is null )", by(api.Equal, by(api.IsNull, a), by(api.IsNull, b)))
	noExpr(t, "a is b", 2)
	noExpr(t, "a is true", 2)
	noExpr(t, "a is ( null )", 2)
	noExpr(t, "a is not not null", 3)
	noExpr(t, "a is not b", 3)
	noExpr(t, "a is 'null'", 2)
	noExpr(t, "is null", 0)
	noExpr(t, "a not null", 1)
	noExpr(t, "a is null + 1", 3)
	noExpr(t, "a is null . b", 3)
}

// P7.2, P7.3: of two tests behind each other the second one is refused.
func TestTwoTests(t *testing.T) {
	ends := []string{"is null", "is not null"}
	for _, sign := range levels()[tests] {
		ends = append(ends, sign+" b")
	}
	for _, first := range ends {
		for _, second := range ends {
			noExpr(t, "a "+first+" "+second, 1+len(cut(t, first)))
			noExpr(t, "( a ) "+first+" "+second+" or a", 3+len(cut(t, first)))
		}
	}
}

// level: how tightly an expression's outmost operator binds.
func level(e api.Expr) int {
	switch e.Op {
	case api.Or:
		return 1
	case api.And:
		return 2
	case api.Not:
		return 3
	case api.IsNull, api.IsSome, api.Equal, api.Differ, api.Less, api.Most, api.More, api.Least:
		return 4
	case api.Plus, api.Minus:
		return 5
	case api.Times, api.Over, api.Rest:
		return 6
	case api.Neg:
		return 7
	}
	return 8
}

// writer writes statements down: all: with ( ) about each part, else only about those that bind less tightly than they would have to.
type writer struct {
	all bool
	l   []api.Token
}

func (w *writer) put(texts ...string) {
	for _, s := range texts {
		if s[0] >= 'a' && s[0] <= 'z' {
			w.l = append(w.l, word(s))
		} else {
			w.l = append(w.l, mark(s))
		}
	}
}

// part writes an expression that has to bind at least so tightly.
func (w *writer) part(e api.Expr, least int) {
	if !w.all && level(e) >= least {
		w.bare(e)
		return
	}
	w.put("(")
	w.bare(e)
	w.put(")")
}

func (w *writer) bare(e api.Expr) {
	for sign, op := range opBySign() {
		if op == e.Op {
			left, right := level(e), level(e)+1
			if left == 4 {
				left = 5
			}
			w.part(e.Subs[0], left)
			w.put(sign)
			w.part(e.Subs[1], right)
		}
	}
	switch e.Op {
	case api.Const:
		w.value(e.Value)
	case api.Named:
		if e.Table != "" {
			w.put(e.Table, ".")
		}
		w.put(e.Name)
	case api.Neg:
		w.put("-")
		w.part(e.Subs[0], 7)
	case api.Not:
		w.put("not")
		w.part(e.Subs[0], 3)
	case api.IsNull:
		w.part(e.Subs[0], 5)
		w.put("is", "null")
	case api.IsSome:
		w.part(e.Subs[0], 5)
		w.put("is", "not", "null")
	case api.CountAll:
		w.put("count", "(", "*", ")")
	case api.Count, api.Sum, api.Min, api.Max:
		w.put([]string{"count", "sum", "min", "max"}[e.Op-api.Count], "(")
		w.bare(e.Subs[0])
		w.put(")")
	}
}

func (w *writer) value(v api.Value) {
	switch v.Kind {
	case api.Null:
		w.put("null")
	case api.Truth:
		w.put([]string{"false", "true"}[v.Int])
	case api.Int:
		w.l = append(w.l, number(v.Int))
	case api.Text:
		w.l = append(w.l, quoted(v.Text))
	}
}

// thrown: an expression thrown together, in which at most so many lie within each other.
func thrown(d *dice, deep int) api.Expr {
	leaves := row(intOf(0), intOf(1), intOf(math.MaxInt64), textOf(""), textOf("is"), nullOf(), truthOf(0), truthOf(1), col("a"), col("b"), colOf("t", "a"), by(api.CountAll))
	if deep <= 1 || d.upTo(5) == 0 {
		return leaves[d.upTo(len(leaves))]
	}
	switch ones := []int{api.Neg, api.Not, api.IsNull, api.IsSome, api.Count, api.Sum, api.Min, api.Max}; d.upTo(3) {
	case 0:
		return by(ones[d.upTo(len(ones))], thrown(d, deep-1))
	default:
		return by(api.Plus+d.upTo(api.Or-api.Plus+1), thrown(d, deep-1), thrown(d, deep-1))
	}
}

// P7.5: what is written down, with all ( ) or with few, is read as it was.
func TestWrittenIsRead(t *testing.T) {
	d := dice(4)
	count := 0
	for range 8000 {
		e := thrown(&d, 1+d.upTo(7))
		for _, all := range []bool{false, true} {
			w := writer{all: all, l: cut(t, "delete from t where")}
			w.bare(e)
			if len(w.l) <= api.MaxTokens {
				checkParse(t, w.l, api.Statement{Kind: api.Delete, Table: "t", Where: e})
				count++
			}
			w = writer{all: all, l: cut(t, "update t set b = ")}
			w.bare(e)
			w.put("where")
			w.bare(e)
			if len(w.l) <= api.MaxTokens {
				checkParse(t, w.l, api.Statement{Kind: api.Update, Table: "t", Sets: []api.Set{{Name: "b", Expr: e}}, Where: e})
			}
		}
	}
	if count < 8000 {
		t.Errorf("only %d expressions were short enough", count)
	}
}

// places gathers where each element of a list, and its spare room, lies.
func places[T any](seen map[any]int, l []T) {
	l = l[:cap(l)]
	for i := range l {
		seen[&l[i]]++
	}
}

func exprPlaces(seen map[any]int, l ...api.Expr) {
	for _, e := range l {
		places(seen, e.Subs)
		exprPlaces(seen, e.Subs...)
	}
}

// allPlaces: of all lists of an answer.
func allPlaces(seen map[any]int, s api.Statement) {
	places(seen, s.Columns)
	places(seen, s.Names)
	places(seen, s.Values)
	places(seen, s.Sets)
	places(seen, s.Groups)
	places(seen, s.Orders)
	exprPlaces(seen, s.On, s.Where)
	exprPlaces(seen, s.Values...)
	exprPlaces(seen, s.Groups...)
	for _, set := range s.Sets {
		exprPlaces(seen, set.Expr)
	}
}

// P7.3, P7.4: what is handed in stays, spare room too; what comes out is new memory, and no two lists of it share any; nothing is kept.
func TestShareNothing(t *testing.T) {
	odd := api.Token{Kind: 77, Int: 78, Text: "odd"}
	var lists [][]api.Token
	for _, s := range samples() {
		l := cut(t, s)
		lists = append(lists, l, l[:len(l)-1], append(slices.Clone(l), mark(")")), append(slices.Clone(l), odd))
	}
	w := thrower{dice: 5, rules: rulesOf(grammar)}
	for range 300 {
		lists = append(lists, slices.Clone(w.statement(100)))
	}
	for _, l := range lists {
		given := append(slices.Clone(l), odd, odd)
		first, at, code := Parse(given[:len(l)])
		if !slices.Equal(given, append(slices.Clone(l), odd, odd)) {
			t.Fatalf("Parse changes what it is handed: %s", told(l))
		}
		for i := range given {
			given[i] = api.Token{Kind: -7, Int: -8, Text: "spoilt"}
		}
		second, atAgain, codeAgain := Parse(l)
		if !same(first, second) || at != atAgain || code != codeAgain {
			t.Fatalf("Parse(%s): %+v, then %+v", told(l), first, second)
		}
		seen := map[any]int{}
		allPlaces(seen, first)
		allPlaces(seen, second)
		for _, n := range seen {
			if n > 1 {
				t.Fatalf("Parse(%s): lists share memory", told(l))
			}
		}
	}
}
