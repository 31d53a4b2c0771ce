package bind

import (
	"math"
	"slices"
	"strings"
	"testing"

	"commonhold/api"
	"commonhold/catalog"
	"commonhold/shape"
)

// good: statements that mean something in the catalog of these tests.
func good() []string {
	return []string{
		"insert into u values ( 1 , 'a' , null )",
		"update t set d = a , b = null where a = 1",
		"delete from t where a = 1",
		"delete from w",
		"select * from u",
		"select z + 1 , t . b , count ( * ) from t join u on d = x where c group by z , b order by 3 desc limit 2",
	}
}

// bad: statements that may be, and are refused for something that is told behind the form of what is handed in.
func bad() []string {
	return []string{
		"create table t ( a int , primary key ( a ) )", "create index td on nothing ( q )",
		"insert into nothing values ( 1 )", "select * from t join nothing on true", "select * from t join t on true",
		"insert into u values ( count ( * ) , q )", "select sum ( sum ( q ) ) from u", "delete from t where max ( q )",
		"insert into u values ( 1 )", "insert into u values ( q , 'a' , 1 )", "insert into u values ( 1 , 2 , 3 )",
		"update t set q = 1", "update t set a = 1", "update t set d = 1 , d = 2", "update t set d = 'a'", "update t set d = q", "update t set d = 1 where 2",
		"delete from u where q", "delete from u where x",
		"select q from t", "select * from t join u on q", "select * from t where d", "select * from t group by q", "select a , count ( * ) from t", "select a from t order by 2",
	}
}

// statements: those of sources.
func statements(t *testing.T, sources ...string) []api.Statement {
	t.Helper()
	var l []api.Statement
	for _, source := range sources {
		l = append(l, read(t, source))
	}
	return l
}

// wrongCatalogs: some that do not fit, each for one reason.
func wrongCatalogs(t *testing.T) [][]api.Table {
	var l [][]api.Table
	wrong := func(change func(*api.Table)) {
		for at := range tables(t) {
			x := tables(t)
			change(&x[at])
			l = append(l, x)
		}
	}
	wrong(func(x *api.Table) { x.Name = "select" })
	wrong(func(x *api.Table) { x.Name = "" })
	wrong(func(x *api.Table) { x.Columns = nil })
	wrong(func(x *api.Table) { x.Columns[0].Name = "thirteen_byte" })
	wrong(func(x *api.Table) { x.Columns = append(x.Columns, x.Columns[0]) })
	wrong(func(x *api.Table) { x.Columns[0].Type = api.Null })
	wrong(func(x *api.Table) { x.Columns[0].Type = api.Text + 1 })
	wrong(func(x *api.Table) { x.Key = nil })
	wrong(func(x *api.Table) { x.Key = []int{-1} })
	wrong(func(x *api.Table) { x.Key = []int{x.Key[0], x.Key[0]} })
	wrong(func(x *api.Table) { x.Key[0] = math.MaxInt64 })
	wrong(func(x *api.Table) { x.Columns[x.Key[0]].NotNull = false })
	wrong(func(x *api.Table) { x.Indexes = make([]api.Index, 1) })
	wrong(func(x *api.Table) { x.Indexes = []api.Index{{Name: "i", Places: []int{0, 6}}} })
	twice := tables(t)
	twice[3].Name = twice[0].Name
	five := append(tables(t), tables(t)[0])
	five[4].Name = "x"
	return append(l, twice, five, make([]api.Table, 1), make([]api.Table, 1<<16))
}

// P11.1: ErrForm, alone and beside all that is told later.
func TestCatalogDoesNotFit(t *testing.T) {
	for _, l := range wrongCatalogs(t) {
		if catalog.Fits(l) {
			t.Fatalf("%s fits", brief(l))
		}
		for _, s := range statements(t, append(good(), bad()...)...) {
			checkRefused(t, l, s, api.ErrForm)
		}
		if len(l) < 10 {
			checkBind(t, l, read(t, good()[5]), api.Bound{}, api.ErrForm)
		}
		checkOnce(t, l[:1], api.Statement{}, api.Bound{}, api.ErrForm)
	}
}

// selfish: expressions that have themselves as parts.
func selfish() []api.Expr {
	one, two, mixed := make([]api.Expr, 1), make([]api.Expr, 2), make([]api.Expr, 2)
	one[0] = by(api.Not, one...)
	two[0], two[1] = by(api.And, two...), by(api.And, two...)
	mixed[0], mixed[1] = yes(), by(api.Or, mixed...)
	return exprs(one[0], two[0], mixed[1], by(api.Sum, one[0]))
}

// wrongExprs: expressions that may not be written.
func wrongExprs() []api.Expr {
	deep, deepNames := yes(), name("q")
	for range api.MaxDepth {
		deep, deepNames = by(api.Not, deep), by(api.Neg, deepNames)
	}
	return append(selfish(), deep, deepNames,
		api.Expr{Place: 1}, api.Expr{Name: "q"}, place(0), whole(-1), constant(truth(2)), constant(api.Value{Kind: 4}), constant(text(strings.Repeat("a", api.MaxText+1))),
		name(""), name("select"), nameOf("A", "a"), api.Expr{Op: api.Named, Name: "a", Place: 1}, api.Expr{Op: api.CountAll, Name: "a"},
		by(api.Not), by(api.Not, yes(), yes()), by(api.And, yes()), by(api.Plus, whole(1), whole(2), whole(3)), by(api.CountAll, yes()), by(api.Count), by(api.Sum, name("q"), name("q")), by(api.Neg, place(0)), by(api.Neg, api.Expr{}),
		by(26), by(-1), by(math.MaxInt64), by(math.MinInt64),
	)
}

// wrongStatements: for each Kind some that may not be, each for one reason.
func wrongStatements(t *testing.T, from api.Statement) []api.Statement {
	var l []api.Statement
	wrong := func(change func(*api.Statement)) {
		s := from
		change(&s)
		l = append(l, s)
	}
	for _, kind := range []int{0, -1, api.Select + 1, math.MaxInt64, math.MinInt64} {
		wrong(func(s *api.Statement) { s.Kind = kind })
	}
	for _, name := range []string{"", "T", "select", "thirteen_byte", "a b", "\xff"} {
		wrong(func(s *api.Statement) { s.Table = name })
	}
	for _, e := range wrongExprs() {
		wrong(func(s *api.Statement) { s.Where = e })
		wrong(func(s *api.Statement) { s.On = e })
		wrong(func(s *api.Statement) { s.Values = exprs(e) })
		wrong(func(s *api.Statement) { s.Values = append(slices.Clone(s.Values), e) })
		wrong(func(s *api.Statement) { s.Sets = append(slices.Clone(s.Sets), api.Set{Name: "b", Expr: e}) })
		wrong(func(s *api.Statement) { s.Groups = append(slices.Clone(s.Groups), e) })
	}
	wrong(func(s *api.Statement) { s.Groups = append(slices.Clone(s.Groups), yes()) })
	wrong(func(s *api.Statement) { s.Values = slices.Repeat(exprs(name("q")), api.MaxItems+1) })
	wrong(func(s *api.Statement) { s.Sets = make([]api.Set, 1) })
	wrong(func(s *api.Statement) { s.Orders = []api.Order{{Item: -1}} })
	wrong(func(s *api.Statement) { s.Orders = []api.Order{{Item: 1}, {Item: math.MinInt64}} })
	wrong(func(s *api.Statement) { s.Limited, s.Limit = false, 1 })
	wrong(func(s *api.Statement) { s.Limited, s.Limit = true, -1 })
	wrong(func(s *api.Statement) { s.Columns, s.Names = nil, []string{"a", "a", "a", "a"} })
	return l
}

// P11.1: ErrForm, alone and beside all that is told later.
func TestStatementMayNotBe(t *testing.T) {
	for _, from := range statements(t, append(good(), bad()...)...) {
		for _, s := range wrongStatements(t, from) {
			if shape.May(s) {
				t.Fatalf("a statement of Kind %d may be", s.Kind)
			}
			for _, l := range [][]api.Table{nil, tables(t), make([]api.Table, 5)} {
				// A statement with parts within themselves can't be told whole, and is not copied.
				if got, code := Bind(l, s); !same(got, api.Bound{}) || code != api.ErrForm {
					t.Errorf("Bind(%s, a statement of Kind %d that may not be): %s, %d", brief(l), s.Kind, brief(got), code)
				}
			}
		}
	}
	s := read(t, "select q from nothing order by 1")
	s.Orders[0].Item = -1
	checkBind(t, tables(t), s, api.Bound{}, api.ErrForm)
	s = read(t, "create index i on t ( a )")
	s.Limited = true
	checkBind(t, tables(t), s, api.Bound{}, api.ErrForm)
}

// P11.1: ErrKind, be there such a table or not.
func TestMakers(t *testing.T) {
	for _, l := range [][]api.Table{nil, {}, tables(t)[:1], tables(t)} {
		for _, source := range []string{
			"create table new ( a int , primary key ( a ) )", "create table t ( a int , primary key ( a ) )", "create table t ( a int , a int , primary key ( q , q ) )",
			"create index new on t ( b )", "create index new on nothing ( b )", "create index td on t ( q , q )",
		} {
			checkBind(t, l, read(t, source), api.Bound{}, api.ErrKind)
		}
	}
}

// P11.1: ErrNone, of Table, beside all that is told later.
func TestNoTable(t *testing.T) {
	for _, source := range []string{"insert into nothing values ( 1 )", "update nothing set d = 1", "delete from nothing", "select * from nothing"} {
		refuses(t, source, api.ErrNone)
		checkBind(t, nil, read(t, source), api.Bound{}, api.ErrNone)
	}
	refusesAll(t, api.ErrNone, `
		insert into nothing values ( count ( * ) )
		insert into nothing values ( min ( max ( 1 ) ) , 'a' + 1 )
		update nothing set d = sum ( d )
		update nothing set d = 1 , d = 'a' where 3
		delete from nothing where count ( a ) = 1
		delete from nothing where 1
		select * from nothing join t on true
		select * from nothing join nothing on true
		select count ( count ( * ) ) from nothing join nothing on 1 where 2 order by 7
		select * from nothing join t on max ( a )
		select * from td
		select * from a
	`)
	// A name that begins alike is another one.
	l := tables(t)
	for i := range l {
		l[i].Name += "_"
		for _, source := range []string{"delete from t", "select * from u", "delete from v", "insert into w values ( null )"} {
			if s := read(t, source); strings.HasPrefix(l[i].Name, s.Table) {
				checkBind(t, l, s, api.Bound{}, api.ErrNone)
			}
		}
	}
}

// P11.1: ErrNone and ErrTwice, of Other.
func TestNoOther(t *testing.T) {
	refusesAll(t, api.ErrNone, `
		select * from t join nothing on true
		select * from t join nothing on count ( * ) = 1
		select min ( min ( 1 ) ) from t join nothing on 1
		select q from t join nothing on q where 1 group by q order by 9
		select a + b from t join nothing on true
	`)
	refusesAll(t, api.ErrTwice, `
		select * from t join t on true
		select * from u join u on true
		select * from v join v on true
		select * from w join w on true
		select * from t join t on count ( * ) = 1
		select min ( min ( 1 ) ) from t join t on 1
		select 'a' + 1 from t join t on 'a' where max ( 1 )
		select q from t join t on q where 1 group by q order by 9
	`)
}

// wraps: ways to put an expression within another one, as each part of each Op.
func wraps(other api.Expr) []func(api.Expr) api.Expr {
	var l []func(api.Expr) api.Expr
	for op := api.Neg; op <= api.Max; op++ {
		switch {
		case op <= api.IsSome || op >= api.Count:
			l = append(l, func(e api.Expr) api.Expr { return by(op, e) })
		case op <= api.Or:
			l = append(l, func(e api.Expr) api.Expr { return by(op, e, other) }, func(e api.Expr) api.Expr { return by(op, other, e) })
		}
	}
	return l
}

// gathered: each of CountAll to Max, alone and within each Op, as each part, with what would be refused later beside it.
func gathered() []api.Expr {
	var l []api.Expr
	for _, op := range gatherings() {
		l = append(l, gathering(op))
		for _, other := range exprs(whole(1), yes(), name("q"), by(api.Neg, yes())) {
			for _, wrap := range wraps(other) {
				l = append(l, wrap(gathering(op)), by(api.IsNull, wrap(wrap(gathering(op)))))
			}
		}
		if op != api.CountAll {
			l = append(l, by(op, name("q")), by(op, by(api.Neg, yes())), by(op, name("a")))
		}
	}
	return l
}

// checkRefused: what is refused; that nothing is changed is looked at elsewhere.
func checkRefused(t *testing.T, l []api.Table, s api.Statement, want api.Errno) {
	t.Helper()
	if got, code := Bind(l, s); !same(got, api.Bound{}) || code != want {
		t.Errorf("Bind(.., %s): %s, %d, want %d", brief(s), brief(got), code, want)
	}
}

// P11.1: ErrForm, where nothing gathers, ahead of all that is told later.
func TestGatheringMisplaced(t *testing.T) {
	l := tables(t)
	for _, e := range gathered() {
		for _, s := range []api.Statement{
			{Kind: api.Insert, Table: "w", Values: exprs(e)},
			{Kind: api.Insert, Table: "u", Values: exprs(e, constant(text("a")), whole(1))},
			{Kind: api.Insert, Table: "u", Values: exprs(name("q"), whole(1), e)},
			{Kind: api.Insert, Table: "u", Values: exprs(e, name("q"))},
			{Kind: api.Update, Table: "t", Sets: []api.Set{{Name: "d", Expr: e}}},
			{Kind: api.Update, Table: "t", Sets: []api.Set{{Name: "q", Expr: name("q")}, {Name: "a", Expr: e}}},
			{Kind: api.Update, Table: "t", Sets: []api.Set{{Name: "a", Expr: whole(1)}}, Where: e},
			{Kind: api.Update, Table: "t", Sets: []api.Set{{Name: "d", Expr: e}}, Where: by(api.Not, e)},
			{Kind: api.Delete, Table: "t", Where: e},
			{Kind: api.Select, Table: "t", Where: e},
			{Kind: api.Select, Table: "t", Values: exprs(name("q")), Where: e, Groups: exprs(name("q"))},
			{Kind: api.Select, Table: "t", Other: "u", On: e},
			{Kind: api.Select, Table: "t", Other: "u", Values: exprs(by(api.Plus, yes(), yes())), On: e, Where: whole(1)},
			{Kind: api.Select, Table: "t", Other: "u", On: name("q"), Where: e, Orders: []api.Order{{}}},
		} {
			checkRefused(t, l, s, api.ErrForm)
		}
	}
}

// P11.1: ErrForm, within another one, ahead of all that is told later.
func TestGatheringWithinAnother(t *testing.T) {
	l := tables(t)
	for _, outer := range gatherings()[1:] {
		for _, inner := range gathered() {
			e := by(outer, inner)
			for _, s := range []api.Statement{
				{Kind: api.Select, Table: "t", Values: exprs(e)},
				{Kind: api.Select, Table: "t", Values: exprs(whole(1), by(api.Not, e))},
				{Kind: api.Select, Table: "t", Values: exprs(name("q"), by(api.Equal, yes(), e), by(api.Neg, yes())), Where: name("q"), Groups: exprs(name("q")), Orders: []api.Order{{Item: 9}}},
				{Kind: api.Select, Table: "t", Other: "u", On: whole(1), Values: exprs(by(api.Plus, by(api.CountAll), by(outer, by(api.IsSome, inner))))},
				{Kind: api.Insert, Table: "t", Values: exprs(e)},
			} {
				checkRefused(t, l, s, api.ErrForm)
			}
		}
	}
	// Beside each other they may stand.
	for _, a := range gatherings() {
		for _, b := range gatherings() {
			e := by(api.Plus, gathering(a), by(api.Neg, gathering(b)))
			checkBind(t, l, api.Statement{Kind: api.Select, Table: "w", Values: exprs(e, gathering(b))}, api.Bound{
				Kind: api.Select, Table: 3, Values: exprs(e, gathering(b)), Grouped: true, Types: []int{api.Int, api.Int},
			}, api.OK)
		}
	}
}
