package bind

import (
	"slices"
	"strconv"
	"strings"
	"testing"

	"commonhold/api"
)

// typed: for each type, ANY first, expressions that name nothing.
func typed() [][]api.Expr {
	return [][]api.Expr{
		exprs(null()),
		exprs(yes(), constant(truth(0)), by(api.IsNull, null()), by(api.Not, null()), by(api.Equal, whole(1), null())),
		exprs(whole(0), whole(1<<62), by(api.Neg, whole(5)), by(api.Plus, null(), null())),
		exprs(constant(text("")), constant(text("a")), constant(text(strings.Repeat("a", api.MaxText)))),
	}
}

func fits(kind, wanted int) bool { return kind == api.Null || kind == wanted }

// nulls: so many Values that pass for each type.
func nulls(n int) []api.Expr { return slices.Repeat(exprs(null()), n) }

// P11.3: ErrSize, ahead of all else of the Values.
func TestInsertSize(t *testing.T) {
	l := tables(t)
	for i, table := range l {
		for n := 1; n <= api.MaxItems; n++ {
			for _, e := range exprs(null(), name("q"), by(api.Neg, yes()), by(api.Over, whole(1), whole(0))) {
				s := api.Statement{Kind: api.Insert, Table: table.Name, Values: append(nulls(n-1), e)}
				switch {
				case n != len(table.Columns):
					checkBind(t, l, s, api.Bound{}, api.ErrSize)
				case e.Op == api.Const:
					checkBind(t, l, s, api.Bound{Kind: api.Insert, Table: i, Values: nulls(n)}, api.OK)
				}
			}
		}
	}
	refusesAll(t, api.ErrSize, `
		insert into u values ( 1 , 'a' )
		insert into u values ( 1 , 'a' , 2 , 3 )
		insert into u values ( 'a' , 1 )
		insert into u values ( x , y , z , z )
		insert into w values ( 1 + 'a' , 2 )
	`)
}

// P11.3: a Value of each type at each column of each table.
func TestInsertTypes(t *testing.T) {
	l := tables(t)
	for i, table := range l {
		for at, column := range table.Columns {
			for kind, es := range typed() {
				for _, e := range es {
					values := nulls(len(table.Columns))
					values[at] = e
					want, code := api.Bound{Kind: api.Insert, Table: i, Values: values}, api.OK
					if !fits(kind, column.Type) {
						want, code = api.Bound{}, api.ErrType
					}
					checkBind(t, l, api.Statement{Kind: api.Insert, Table: table.Name, Values: values}, want, code)
				}
			}
		}
	}
	binds(t, "insert into t values ( 1 + 2 , 'x' , not false , - 3 )", api.Bound{
		Kind: api.Insert, Values: exprs(by(api.Plus, whole(1), whole(2)), constant(text("x")), by(api.Not, constant(truth(0))), by(api.Neg, whole(3))),
	})
}

// fault: an expression that is refused, and for what, at a column of a type.
type fault struct {
	e    api.Expr
	code api.Errno
}

// faults: those at a column of a type.
func faults(kind int) []fault {
	l := []fault{
		{name("q"), api.ErrNone}, {by(api.IsNull, name("q")), api.ErrNone}, {by(api.Neg, nameOf("nothing", "q")), api.ErrNone},
		{by(api.Neg, yes()), api.ErrType}, {by(api.And, whole(1), whole(1)), api.ErrType}, {by(api.IsSome, by(api.Not, whole(1))), api.ErrType},
	}
	for other, es := range typed() {
		if !fits(other, kind) {
			l = append(l, fault{es[0], api.ErrType})
		}
	}
	return l
}

// P11.3: the Values are bound one by one, and each is held against its column ahead of the next one.
func TestInsertOrder(t *testing.T) {
	l := tables(t)
	for _, table := range l {
		n := len(table.Columns)
		for i := range n {
			for _, a := range faults(table.Columns[i].Type) {
				values := nulls(n)
				values[i] = a.e
				checkRefused(t, l, api.Statement{Kind: api.Insert, Table: table.Name, Values: values}, a.code)
				for j := i + 1; j < n; j++ {
					for _, b := range faults(table.Columns[j].Type) {
						values := slices.Clone(values)
						values[j] = b.e
						checkRefused(t, l, api.Statement{Kind: api.Insert, Table: table.Name, Values: values}, a.code)
					}
				}
			}
		}
	}
	refuses(t, "insert into u values ( 'a' , q , 3 )", api.ErrType)
	refuses(t, "insert into u values ( 1 , q , 'a' )", api.ErrNone)
	// What can be named elsewhere cannot be here.
	refuses(t, "insert into u values ( u . x , 2 , 'a' )", api.ErrNone)
}

// P11.4: an Expr of each type for each column of each table.
func TestUpdateTypes(t *testing.T) {
	l := tables(t)
	for i, table := range l {
		for at, column := range table.Columns {
			for kind, es := range typed() {
				for _, e := range es {
					want, code := api.Bound{Kind: api.Update, Table: i, Changes: []api.Change{{Place: at, Expr: e}}}, api.OK
					switch {
					case slices.Contains(table.Key, at):
						want, code = api.Bound{}, api.ErrState
					case !fits(kind, column.Type):
						want, code = api.Bound{}, api.ErrType
					}
					checkBind(t, l, api.Statement{Kind: api.Update, Table: table.Name, Sets: []api.Set{{Name: column.Name, Expr: e}}}, want, code)
				}
			}
		}
	}
}

// P11.4: what the Sets are, in their order, and Where.
func TestUpdate(t *testing.T) {
	binds(t, "update t set d = a , b = null where a = 1", api.Bound{
		Kind: api.Update, Changes: []api.Change{{Place: 3, Expr: place(0)}, {Place: 1, Expr: null()}}, Where: by(api.Equal, place(0), whole(1)),
	})
	binds(t, "update t set b = b , c = not c , d = d + t . a", api.Bound{
		Kind: api.Update, Changes: []api.Change{{Place: 1, Expr: place(1)}, {Place: 2, Expr: by(api.Not, place(2))}, {Place: 3, Expr: by(api.Plus, place(3), place(0))}},
	})
	binds(t, "update u set z = x where y = 'a' and z is null", api.Bound{
		Kind: api.Update, Table: 1, Changes: []api.Change{{Place: 2, Expr: place(0)}}, Where: by(api.And, by(api.Equal, place(1), constant(text("a"))), by(api.IsNull, place(2))),
	})
	binds(t, "update v set f = b , e = h , a = g > 1 where null", api.Bound{
		Kind: api.Update, Table: 2, Changes: []api.Change{{Place: 3, Expr: place(0)}, {Place: 2, Expr: place(5)}, {Place: 1, Expr: by(api.More, place(4), whole(1))}}, Where: null(),
	})
	refuses(t, "update t set d = b", api.ErrType)
	refuses(t, "update t set c = a", api.ErrType)
	refuses(t, "update t set b = c", api.ErrType)
	// The other ones have that column.
	refuses(t, "update t set z = 1", api.ErrNone)
	refuses(t, "update u set d = 1", api.ErrNone)
}

// setFault: a Set that is refused behind one of b, and for what.
type setFault struct {
	set  api.Set
	code api.Errno
}

// setFaults: of t, in the order in which they are told of one Set.
func setFaults() []setFault {
	var l []setFault
	for _, e := range exprs(null(), whole(1), constant(text("a")), name("q"), by(api.Neg, yes())) {
		l = append(l,
			setFault{api.Set{Name: "q", Expr: e}, api.ErrNone}, setFault{api.Set{Name: "t", Expr: e}, api.ErrNone}, setFault{api.Set{Name: "x", Expr: e}, api.ErrNone},
			setFault{api.Set{Name: "a", Expr: e}, api.ErrState}, setFault{api.Set{Name: "b", Expr: e}, api.ErrTwice},
		)
	}
	for _, f := range faults(api.Int) {
		l = append(l, setFault{api.Set{Name: "d", Expr: f.e}, f.code})
	}
	for _, f := range faults(api.Truth) {
		l = append(l, setFault{api.Set{Name: "c", Expr: f.e}, f.code})
	}
	return l
}

// P11.4: the Sets are looked at one by one, and Where behind them.
func TestUpdateOrder(t *testing.T) {
	l := tables(t)
	first := api.Set{Name: "b", Expr: null()}
	for _, a := range setFaults() {
		for _, where := range exprs(api.Expr{}, yes(), whole(1), name("q"), by(api.Neg, yes())) {
			s := api.Statement{Kind: api.Update, Table: "t", Sets: []api.Set{first, a.set}, Where: where}
			checkRefused(t, l, s, a.code)
			for _, b := range setFaults() {
				s.Sets = []api.Set{first, a.set, b.set}
				checkRefused(t, l, s, a.code)
			}
			for at := range 3 {
				// Between others, and behind them.
				s.Sets = slices.Insert([]api.Set{first, {Name: "d", Expr: whole(1)}, {Name: "c", Expr: yes()}}, at+1, a.set)
				if !slices.ContainsFunc(s.Sets[:at+1], func(x api.Set) bool { return x.Name == a.set.Name && x.Name != "b" }) {
					checkRefused(t, l, s, a.code)
				}
			}
		}
	}
	for _, f := range faults(api.Truth) {
		checkBind(t, l, api.Statement{Kind: api.Update, Table: "t", Sets: []api.Set{first}, Where: f.e}, api.Bound{}, f.code)
	}
}

// P11.4: ErrTwice, of each two of several Sets.
func TestUpdateTwice(t *testing.T) {
	l := tables(t)
	free := []string{"f", "e", "a"}
	for i := range 4 {
		for j := range i {
			for k, column := range free {
				var sets []api.Set
				others := append(slices.Clone(free[:k]), free[k+1:]...)
				for n := range i + 1 {
					set := api.Set{Name: column, Expr: null()}
					if n != i && n != j {
						set.Name, others = others[0], others[1:]
					}
					sets = append(sets, set)
				}
				checkBind(t, l, api.Statement{Kind: api.Update, Table: "v", Sets: sets}, api.Bound{}, api.ErrTwice)
				sets[i].Expr = name("q")
				checkBind(t, l, api.Statement{Kind: api.Update, Table: "v", Sets: sets, Where: whole(1)}, api.Bound{}, api.ErrTwice)
				sets[j].Expr = name("q")
				checkBind(t, l, api.Statement{Kind: api.Update, Table: "v", Sets: sets}, api.Bound{}, api.ErrNone)
			}
		}
	}
	// One of the Key is told as that, even where it is set twice.
	refuses(t, "update t set a = 1 , a = 2", api.ErrState)
	refuses(t, "update u set y = 'a'", api.ErrState)
	refuses(t, "update u set x = 'a'", api.ErrState)
	refuses(t, "update v set h = true", api.ErrState)
	refuses(t, "update v set g = q", api.ErrState)
}

// P11.5: all columns, where there are no Values.
func TestSelectAll(t *testing.T) {
	l := tables(t)
	for i, one := range l {
		for j, two := range l {
			s := api.Statement{Kind: api.Select, Table: one.Name}
			want := api.Bound{Kind: api.Select, Table: i}
			columns := one.Columns
			if i != j {
				s.Other, s.On, want.Other, want.On = two.Name, null(), j+1, null()
				columns = slices.Concat(one.Columns, two.Columns)
			}
			for at, c := range columns {
				want.Values, want.Types = append(want.Values, place(at)), append(want.Types, c.Type)
			}
			checkBind(t, l, s, want, api.OK)
			// They can be ordered by, each of them.
			for at := range columns {
				s.Orders = []api.Order{{Item: at + 1, Down: at%2 == 0}, {Item: 1}}
				want.Orders = s.Orders
				checkBind(t, l, s, want, api.OK)
			}
			for _, item := range []int{0, len(columns) + 1} {
				s.Orders = []api.Order{{Item: 1}, {Item: item}}
				checkBind(t, l, s, api.Bound{}, api.ErrRange)
			}
		}
	}
	binds(t, "select * from u where x = 1 order by 3 desc , 1 limit 0", api.Bound{
		Kind: api.Select, Table: 1, Values: exprs(place(0), place(1), place(2)), Where: by(api.Equal, place(0), whole(1)), Orders: []api.Order{{Item: 3, Down: true}, {Item: 1}}, Limited: true, Types: []int{api.Int, api.Text, api.Int},
	})
}

// P11.5: what a select has.
func TestSelect(t *testing.T) {
	binds(t, "select z + 1 , t . b , count ( * ) from t join u on d = x where c group by z , b order by 3 desc limit 2", api.Bound{
		Kind: api.Select, Other: 2, Values: exprs(by(api.Plus, place(6), whole(1)), place(1), by(api.CountAll)), On: by(api.Equal, place(3), place(4)), Where: place(2), Grouped: true, Groups: []int{6, 1}, Orders: []api.Order{{Item: 3, Down: true}}, Limited: true, Limit: 2, Types: []int{api.Int, api.Text, api.Int},
	})
	binds(t, "select d , null , c or null , b , min ( null ) from t group by d , c , b", api.Bound{
		Kind: api.Select, Values: exprs(place(3), null(), by(api.Or, place(2), null()), place(1), by(api.Min, null())), Grouped: true, Groups: []int{3, 2, 1}, Types: []int{api.Int, api.Null, api.Truth, api.Text, api.Null},
	})
	binds(t, "select null from w", api.Bound{Kind: api.Select, Table: 3, Values: exprs(null()), Types: []int{api.Null}})
	binds(t, "select max ( a ) , min ( a ) = 'x' , max ( null ) + 1 from w", api.Bound{
		Kind: api.Select, Table: 3, Values: exprs(by(api.Max, place(0)), by(api.Equal, by(api.Min, place(0)), constant(text("x"))), by(api.Plus, by(api.Max, null()), whole(1))), Grouped: true, Types: []int{api.Text, api.Truth, api.Int},
	})
	binds(t, "select a , a from t", api.Bound{Kind: api.Select, Values: exprs(place(0), place(0)), Types: []int{api.Int, api.Int}})
	for _, limit := range []int{0, 1, 200, 9223372036854775807} {
		binds(t, "select a from t limit "+strconv.Itoa(limit), api.Bound{Kind: api.Select, Values: exprs(place(0)), Types: []int{api.Int}, Limited: true, Limit: limit})
	}
}

// P11.5: by Groups alone, by one of CountAll to Max alone, by both, and by neither.
func TestGrouped(t *testing.T) {
	l := tables(t)
	for _, op := range gatherings() {
		for _, e := range exprs(gathering(op), by(api.Neg, gathering(op)), by(api.Equal, whole(1), gathering(op))) {
			for _, values := range [][]api.Expr{{e}, {whole(1), e}, {e, whole(1)}, {null(), e, e}} {
				b, code := Bind(l, api.Statement{Kind: api.Select, Table: "t", Values: values})
				if code != api.OK || !b.Grouped || len(b.Groups) != 0 {
					t.Errorf("%s: %s, %d", brief(values), brief(b), code)
				}
				b, code = Bind(l, api.Statement{Kind: api.Select, Table: "t", Values: values, Groups: exprs(name("d"))})
				if code != api.OK || !b.Grouped || !slices.Equal(b.Groups, []int{3}) {
					t.Errorf("%s: %s, %d", brief(values), brief(b), code)
				}
			}
		}
	}
	binds(t, "select 1 from t", api.Bound{Kind: api.Select, Values: exprs(whole(1)), Types: []int{api.Int}})
	binds(t, "select 1 from t group by a", api.Bound{Kind: api.Select, Values: exprs(whole(1)), Types: []int{api.Int}, Grouped: true, Groups: []int{0}})
	binds(t, "select * from w group by a", api.Bound{Kind: api.Select, Table: 3, Values: exprs(place(0)), Types: []int{api.Text}, Grouped: true, Groups: []int{0}})
	// Groups stay as they are, one that stands there twice, too.
	binds(t, "select * from u group by z , x , u . y , x", api.Bound{Kind: api.Select, Table: 1, Values: exprs(place(0), place(1), place(2)), Types: []int{api.Int, api.Text, api.Int}, Grouped: true, Groups: []int{2, 0, 1, 0}})
	binds(t, "select w . a from v join w on true group by h , f , w . a", api.Bound{Kind: api.Select, Table: 2, Other: 4, On: yes(), Values: exprs(place(6)), Types: []int{api.Text}, Grouped: true, Groups: []int{5, 3, 6}})
}

// P11.5: a column is one of the Groups, or stands in one of CountAll to Max, or it is refused.
func TestStrays(t *testing.T) {
	l := tables(t)
	check := func(e api.Expr, groups []api.Expr, want api.Errno) {
		t.Helper()
		for _, values := range [][]api.Expr{{e}, {by(api.CountAll), e}, {e, name("d")}, {name("d"), whole(1), by(api.IsNull, e)}} {
			s := api.Statement{Kind: api.Select, Table: "t", Values: values, Groups: append(exprs(name("d")), groups...)}
			b, code := Bind(l, s)
			if code != want || code != api.OK && !same(b, api.Bound{}) {
				t.Errorf("%s by %s: %s, %d, want %d", brief(values), brief(s.Groups), brief(b), code, want)
			}
		}
	}
	for _, op := range gatherings()[1:] {
		within := by(op, name("a"))
		check(within, nil, api.OK)
		check(by(op, by(api.Neg, name("a"))), nil, api.OK)
		check(by(api.Neg, by(op, by(api.Plus, name("d"), name("a")))), nil, api.OK)
		// It stands in one, and outside of it.
		check(by(api.Plus, within, name("a")), nil, api.ErrForm)
		check(by(api.Plus, name("a"), within), nil, api.ErrForm)
		check(by(api.Plus, name("a"), within), exprs(name("a")), api.OK)
		check(by(api.Plus, name("d"), within), nil, api.OK)
	}
	for _, e := range exprs(name("a"), nameOf("t", "a"), by(api.Neg, name("a")), by(api.Plus, name("d"), name("a")), by(api.Plus, name("a"), name("d")), by(api.Times, by(api.Neg, by(api.Over, whole(1), name("a"))), by(api.CountAll))) {
		check(e, nil, api.ErrForm)
		check(e, exprs(name("b"), name("c")), api.ErrForm)
		check(e, exprs(name("a")), api.OK)
		check(e, exprs(name("b"), nameOf("t", "a")), api.OK)
	}
	refusesAll(t, api.ErrForm, `
		select a , count ( * ) from t
		select count ( * ) , a from t
		select a + sum ( a ) from t
		select b from t group by a
		select * from t group by a
		select * from t group by a , b , c
		select * from u group by z , y
		select * from t join u on d = x group by a , b , c , d , x , y
		select t . a from t join v on true group by v . a
		select v . b , sum ( t . a ) from t join v on true group by t . b
	`)
	binds(t, "select sum ( a ) from t", api.Bound{Kind: api.Select, Values: exprs(by(api.Sum, place(0))), Types: []int{api.Int}, Grouped: true})
	// On and Where may have any column.
	binds(t, "select count ( * ) from t join u on a = x where d = z group by b", api.Bound{
		Kind: api.Select, Other: 2, Values: exprs(by(api.CountAll)), On: by(api.Equal, place(0), place(4)), Where: by(api.Equal, place(3), place(6)), Types: []int{api.Int}, Grouped: true, Groups: []int{1},
	})
}

// P11.5: ErrRange.
func TestOrders(t *testing.T) {
	l := tables(t)
	for n := 1; n <= api.MaxItems; n++ {
		for item := 0; item <= n+2; item++ {
			for _, orders := range [][]api.Order{{{Item: item}}, {{Item: item, Down: true}}, {{Item: 1}, {Item: item}}, {{Item: item}, {Item: 1, Down: true}}, {{Item: item}, {Item: item}}} {
				s := api.Statement{Kind: api.Select, Table: "t", Values: nulls(n), Orders: orders}
				want, code := api.Bound{Kind: api.Select, Values: nulls(n), Orders: orders, Types: make([]int, n)}, api.OK
				if item < 1 || item > n {
					want, code = api.Bound{}, api.ErrRange
				}
				checkBind(t, l, s, want, code)
			}
		}
	}
	s := api.Statement{Kind: api.Select, Table: "t", Values: nulls(3), Orders: []api.Order{{Item: -1}}}
	checkBind(t, l, s, api.Bound{}, api.ErrForm)
	s.Orders[0].Item = 1<<63 - 1
	checkBind(t, l, s, api.Bound{}, api.ErrRange)
}

// step: something that is refused of a select, and how it is put there.
type step struct {
	code  api.Errno
	spoil func(s *api.Statement)
}

// steps: those of a select, in their order. Each list is of what can't be there together.
func steps() [][]step {
	value := func(e api.Expr, code api.Errno) step {
		return step{code, func(s *api.Statement) { s.Values = append(slices.Clone(s.Values), e) }}
	}
	on := func(e api.Expr, code api.Errno) step { return step{code, func(s *api.Statement) { s.On = e }} }
	where := func(e api.Expr, code api.Errno) step { return step{code, func(s *api.Statement) { s.Where = e }} }
	group := func(e api.Expr, code api.Errno) step {
		return step{code, func(s *api.Statement) { s.Groups = append(slices.Clone(s.Groups), e) }}
	}
	both := name("b")
	return [][]step{
		{{api.ErrNone, func(s *api.Statement) { s.Table = "nothing" }}},
		{{api.ErrNone, func(s *api.Statement) { s.Other = "nothing" }}, {api.ErrTwice, func(s *api.Statement) { s.Other = s.Table }}},
		{value(by(api.Sum, by(api.CountAll)), api.ErrForm)},
		{value(name("q"), api.ErrNone), value(both, api.ErrTwice), value(by(api.Neg, yes()), api.ErrType)},
		{value(name("q"), api.ErrNone), value(both, api.ErrTwice), value(by(api.Neg, yes()), api.ErrType)},
		{on(name("q"), api.ErrNone), on(both, api.ErrTwice), on(by(api.Neg, yes()), api.ErrType), on(whole(1), api.ErrType), on(by(api.Neg, both), api.ErrTwice)},
		{where(name("q"), api.ErrNone), where(both, api.ErrTwice), where(by(api.Neg, yes()), api.ErrType), where(constant(text("")), api.ErrType), where(by(api.Neg, name("q")), api.ErrNone)},
		{group(name("q"), api.ErrNone), group(both, api.ErrTwice), group(nameOf("u", "x"), api.ErrNone)},
		{group(name("q"), api.ErrNone), group(both, api.ErrTwice)},
		{value(name("d"), api.ErrForm)},
		{{api.ErrRange, func(s *api.Statement) { s.Orders = []api.Order{{Item: 1}, {Item: 9}} }}, {api.ErrRange, func(s *api.Statement) { s.Orders = []api.Order{{}} }}},
	}
}

// P11.1, P11.5: of each two that are refused the first one is told, and of all of them.
func TestSelectOrder(t *testing.T) {
	l := tables(t)
	from := read(t, "select c , count ( * ) from t join v on e where c group by c order by 1")
	checkOnce(t, l, from, api.Bound{
		Kind: api.Select, Other: 3, Values: exprs(place(2), by(api.CountAll)), On: place(6), Where: place(2), Grouped: true, Groups: []int{2}, Orders: []api.Order{{Item: 1}}, Types: []int{api.Truth, api.Int},
	}, api.OK)
	all := steps()
	for i, ahead := range all {
		for _, a := range ahead {
			one := from
			a.spoil(&one)
			checkRefused(t, l, one, a.code)
			rest := one
			for _, behind := range all[i+1:] {
				for _, b := range behind {
					two := one
					b.spoil(&two)
					checkRefused(t, l, two, a.code)
				}
				behind[0].spoil(&rest)
			}
			checkRefused(t, l, rest, a.code)
		}
	}
}

// P11.6: a delete, with a Where and without one.
func TestDelete(t *testing.T) {
	binds(t, "delete from t", api.Bound{Kind: api.Delete})
	binds(t, "delete from w", api.Bound{Kind: api.Delete, Table: 3})
	binds(t, "delete from u where y = 'a' or z < x", api.Bound{Kind: api.Delete, Table: 1, Where: by(api.Or, by(api.Equal, place(1), constant(text("a"))), by(api.Less, place(2), place(0)))})
	refuses(t, "delete from t where d", api.ErrType)
	refuses(t, "delete from t where 1 + null = 'a'", api.ErrType)
}

// moved: a catalog whose tables stand in another order.
func moved(l []api.Table, by int) []api.Table {
	by %= len(l)
	return slices.Concat(l[by:], l[:by])
}

// P11.6: the places of the tables, wherever these stand.
func TestPlacesOfTables(t *testing.T) {
	for by := range 4 {
		l := moved(tables(t), by)
		for i, one := range l {
			for source, kind := range map[string]int{"delete from ": api.Delete, "select 1 from ": api.Select} {
				want := api.Bound{Kind: kind, Table: i}
				if kind == api.Select {
					want.Values, want.Types = exprs(whole(1)), []int{api.Int}
				}
				checkBind(t, l, read(t, source+one.Name), want, api.OK)
			}
			checkBind(t, l, api.Statement{Kind: api.Insert, Table: one.Name, Values: nulls(len(one.Columns))}, api.Bound{Kind: api.Insert, Table: i, Values: nulls(len(one.Columns))}, api.OK)
			for j, two := range l {
				if i != j {
					checkBind(t, l, read(t, "select 1 from "+one.Name+" join "+two.Name+" on true"), api.Bound{Kind: api.Select, Table: i, Other: j + 1, On: yes(), Values: exprs(whole(1)), Types: []int{api.Int}}, api.OK)
				}
			}
		}
		at := slices.IndexFunc(l, func(x api.Table) bool { return x.Name == "t" })
		checkBind(t, l, read(t, "update t set c = null"), api.Bound{Kind: api.Update, Table: at, Changes: []api.Change{{Place: 2, Expr: null()}}}, api.OK)
		// A catalog of that table alone.
		checkBind(t, l[at:at+1], read(t, "update t set c = null"), api.Bound{Kind: api.Update, Changes: []api.Change{{Place: 2, Expr: null()}}}, api.OK)
	}
}

// What holds everywhere: what comes out stays, whatever becomes of what was handed in, and lists that shared memory share none.
func TestAnswersStandAlone(t *testing.T) {
	shared := exprs(name("d"), name("a"))
	sum := by(api.Plus, shared...)
	for _, s := range []api.Statement{
		{Kind: api.Insert, Table: "u", Values: exprs(by(api.Plus, whole(1), whole(2)), null(), by(api.Neg, whole(1)))},
		{Kind: api.Update, Table: "t", Sets: []api.Set{{Name: "d", Expr: sum}, {Name: "c", Expr: by(api.Less, sum, sum)}}, Where: by(api.Equal, shared...)},
		{Kind: api.Delete, Table: "t", Where: by(api.Or, by(api.Less, shared...), by(api.Less, shared...))},
		{Kind: api.Select, Table: "t", Other: "u", On: by(api.Less, shared...), Values: shared, Where: by(api.Equal, shared...), Groups: shared, Orders: []api.Order{{Item: 2}, {Item: 1, Down: true}}},
		{Kind: api.Select, Table: "t", Values: exprs(sum, sum, by(api.Times, sum, sum))},
	} {
		l := tables(t)
		got, code := Bind(l, s)
		if code != api.OK || sharing(got) || sharingWith(got, s) || sharingWith(got, l) {
			t.Fatalf("%s: %s, %d", brief(s), brief(got), code)
		}
		kept := toldOf(got)
		s = roomyStatement(s)
		got, _ = Bind(l, s)
		again, _ := Bind(l, s)
		clear(s.Values)
		clear(s.Sets)
		clear(s.Groups)
		clear(s.Orders)
		clear(s.On.Subs)
		clear(s.Where.Subs)
		clear(again.Values)
		clear(again.Changes)
		clear(l)
		if toldOf(got) != kept {
			t.Errorf("%s is changed from outside: %s", kept, toldOf(got))
		}
	}
}
