package catalog

import (
	"math"
	"reflect"
	"slices"
	"testing"

	"commonhold/api"
	"commonhold/shape"
)

// checkDefine: what Define answers, with spare room and without; what was handed in stays, and nothing of it is shared.
func checkDefine(t *testing.T, l []api.Table, s api.Statement, want []api.Table, code api.Errno) {
	t.Helper()
	for _, x := range [][]api.Table{l, roomyTables(l)} {
		for _, y := range []api.Statement{s, roomyStatement(s)} {
			kept := [2]string{wholeOf(x), brief(y)}
			spare := wholeOf(y.Columns) + wholeOf(y.Names)
			got, e := Define(x, y)
			if e != code || !same(got, want) {
				t.Errorf("Define(%s, %s): %s, %d, want %s, %d", brief(x), brief(y), brief(got), e, brief(want), code)
			}
			if e == api.OK && !Fits(got) {
				t.Errorf("Define(%s, %s) does not fit: %s", brief(x), brief(y), brief(got))
			}
			if kept != [2]string{wholeOf(x), brief(y)} || spare != wholeOf(y.Columns)+wholeOf(y.Names) {
				t.Errorf("%s is now %s, %s", kept, brief(x), brief(y))
			}
			again, _ := Define(x, y)
			checkApart(t, got, x, y, again)
		}
	}
}

func refuses(t *testing.T, l []api.Table, source string, code api.Errno) {
	t.Helper()
	checkDefine(t, l, read(t, source), nil, code)
}

// defines: a source makes a table, which stands behind the others.
func defines(t *testing.T, l []api.Table, source string, want api.Table) {
	t.Helper()
	checkDefine(t, l, read(t, source), append(slices.Clone(l), want), api.OK)
}

// indexes: a source makes an index, which stands behind those of one of the tables.
func indexes(t *testing.T, l []api.Table, source string, table int, want api.Index) {
	t.Helper()
	x := l[table]
	x.Indexes = append(slices.Clone(x.Indexes), want)
	checkDefine(t, l, read(t, source), with(l, table, x), api.OK)
}

// statements: one of each Kind that may be.
func statements(t *testing.T) []api.Statement {
	var l []api.Statement
	for _, source := range []string{
		"create table zz ( a int , primary key ( a ) )",
		"create index zz on none ( a )",
		"insert into none values ( 1 , 'x' )",
		"update none set b = 'y' where a = 1",
		"delete from none where a = 1",
		"select a from none join one on none . a = one . b where true group by a order by 1 limit 3",
	} {
		l = append(l, read(t, source))
	}
	return l
}

// wrongCatalogs: some that do not fit, each for one reason.
func wrongCatalogs() [][]api.Table {
	var l [][]api.Table
	wrong := func(change func(*api.Table)) {
		for at := range several() {
			x := several()
			change(&x[at])
			l = append(l, x)
		}
	}
	wrong(func(x *api.Table) { x.Name = "select" })
	wrong(func(x *api.Table) { x.Columns = nil })
	wrong(func(x *api.Table) { x.Columns[0].Name = "" })
	wrong(func(x *api.Table) { x.Columns[1].Name = x.Columns[0].Name })
	wrong(func(x *api.Table) { x.Columns[1].Type = 4 })
	wrong(func(x *api.Table) { x.Key = nil })
	wrong(func(x *api.Table) { x.Key = []int{-1} })
	wrong(func(x *api.Table) { x.Key = []int{x.Key[0], x.Key[0]} })
	wrong(func(x *api.Table) { x.Key[0] = math.MaxInt64 })
	wrong(func(x *api.Table) { x.Columns[x.Key[0]].NotNull = false })
	wrong(func(x *api.Table) { x.Indexes = make([]api.Index, 1) })
	wrong(func(x *api.Table) { x.Indexes = []api.Index{{Name: "i", Places: []int{0, 3}}} })
	wrong(func(x *api.Table) {
		x.Indexes = []api.Index{{Name: "i", Places: []int{0}}, {Name: "i", Places: []int{1}}}
	})
	twice := several()
	twice[2].Name = twice[0].Name
	return append(l, twice, append(greatest(), several()...), make([]api.Table, 1), make([]api.Table, 5))
}

// P9.2: ErrForm.
func TestDefineInCatalogsThatDoNotFit(t *testing.T) {
	for _, l := range wrongCatalogs() {
		if Fits(l) {
			t.Fatalf("%+v fits", l)
		}
		for _, s := range append(statements(t), api.Statement{}) {
			checkDefine(t, l, s, nil, api.ErrForm)
		}
		// What else would be refused is not told.
		refuses(t, l, "create table none ( a int , a int , primary key ( q ) )", api.ErrForm)
		refuses(t, l, "create index i on nothing ( q )", api.ErrForm)
		refuses(t, l, "create index i on two ( q )", api.ErrForm)
	}
}

// wrongStatements: some that may not be, each for one reason.
func wrongStatements(t *testing.T) []api.Statement {
	var l []api.Statement
	wrong := func(kinds []int, change func(*api.Statement)) {
		for _, s := range statements(t) {
			if slices.Contains(kinds, s.Kind) {
				change(&s)
				l = append(l, s)
			}
		}
	}
	all := []int{api.MakeTable, api.MakeIndex, api.Insert, api.Update, api.Delete, api.Select}
	makers := all[:2]
	for _, kind := range []int{0, -1, 7, math.MaxInt64, math.MinInt64} {
		wrong(all, func(s *api.Statement) { s.Kind = kind })
	}
	for _, name := range wrongNames() {
		wrong(all, func(s *api.Statement) { s.Table = name })
		wrong(makers, func(s *api.Statement) { s.Names = []string{name} })
		wrong(makers, func(s *api.Statement) { s.Names = []string{"a", name} })
		wrong(all[:1], func(s *api.Statement) { s.Columns = append(s.Columns, api.Column{Name: name, Type: api.Int}) })
		wrong(all[1:2], func(s *api.Statement) { s.Name = name })
	}
	for _, kind := range wrongTypes() {
		wrong(all[:1], func(s *api.Statement) { s.Columns[0].Type = kind })
	}
	wrong(all[:1], func(s *api.Statement) { s.Columns = nil })
	wrong(all[:1], func(s *api.Statement) { s.Columns = columns(api.MaxCols + 1); s.Names = []string{"c0"} })
	wrong(makers, func(s *api.Statement) { s.Names = nil })
	wrong(makers, func(s *api.Statement) { s.Names = slices.Repeat([]string{"a"}, api.MaxKeys+1) })
	wrong(makers, func(s *api.Statement) { s.Limited = true })
	wrong(makers, func(s *api.Statement) { s.Limit = 1 })
	wrong(makers, func(s *api.Statement) { s.Other = "one" })
	wrong(makers, func(s *api.Statement) { s.Where = api.Expr{Op: api.Const} })
	wrong(makers, func(s *api.Statement) { s.Values = make([]api.Expr, 1) })
	wrong(makers, func(s *api.Statement) { s.Sets = make([]api.Set, 1) })
	wrong(all[:1], func(s *api.Statement) { s.Name = "i" })
	wrong(all[1:2], func(s *api.Statement) { s.Columns = columns(1) })
	wrong(all[2:], func(s *api.Statement) { s.Names = []string{"a"} })
	// Parts that have themselves as parts.
	within := make([]api.Expr, 2)
	within[0], within[1] = api.Expr{Op: api.Plus, Subs: within}, api.Expr{Op: api.Or, Subs: within}
	return append(l, api.Statement{}, api.Statement{Kind: api.Delete, Table: "none", Where: within[0]}, api.Statement{Kind: api.MakeTable, Table: "zz", Columns: columns(1), Names: []string{"c0"}, On: within[1]})
}

// P9.2: ErrForm.
func TestDefineStatementsThatMayNotBe(t *testing.T) {
	for _, s := range wrongStatements(t) {
		if shape.May(s) {
			t.Fatalf("a statement of Kind %d may be", s.Kind)
		}
		for _, l := range append(catalogs(), wrongCatalogs()[0]) {
			// A statement with parts within themselves can't be told whole, and is not copied.
			kept := wholeOf(l)
			got, code := Define(l, s)
			if len(got) != 0 || code != api.ErrForm || wholeOf(l) != kept {
				t.Errorf("Define(%s, a statement of Kind %d that may not be): %s, %d", brief(l), s.Kind, brief(got), code)
			}
		}
	}
}

// P9.2: ErrKind, whatever there is.
func TestDefineOtherKinds(t *testing.T) {
	for _, s := range statements(t)[2:] {
		for _, l := range catalogs() {
			checkDefine(t, l, s, nil, api.ErrKind)
			s.Table = "nothing"
			checkDefine(t, l, s, nil, api.ErrKind)
		}
	}
	refuses(t, nil, "delete from t", api.ErrKind)
	refuses(t, greatest(), "select * from t", api.ErrKind)
}

// P9.2
func TestDefineTable(t *testing.T) {
	want := api.Table{
		Name:    "new",
		Columns: []api.Column{{Name: "a", Type: api.Int}, {Name: "b", Type: api.Text, NotNull: true}, {Name: "c", Type: api.Truth, NotNull: true}},
		Key:     []int{1},
	}
	for _, l := range catalogs() {
		if len(l) < api.MaxTables {
			defines(t, l, "create table new ( a int , b text not null , c truth not null , primary key ( b ) )", want)
		}
	}
	defines(t, nil, "create table t ( a truth , primary key ( a ) )", smallest()[0])
	for n := range greatest() {
		x := greatTable("x")
		x.Indexes = nil
		defines(t, greatest()[:n], "create table eleven_bytex ( eleven_bytea truth , b int , c text not null , d int , e text , _6 truth , primary key ( _6 , b , c ) )", x)
	}
	// A Name that a column or an index has is still free for a table, and that of a table for a column.
	for _, name := range []string{"a", "b", "i", "j"} {
		defines(t, several(), "create table "+name+" ( none int , primary key ( none ) )", api.Table{Name: name, Columns: []api.Column{{Name: "none", Type: api.Int, NotNull: true}}, Key: []int{0}})
	}
	defines(t, nil, "create table t ( t int , primary key ( t ) )", api.Table{Name: "t", Columns: []api.Column{{Name: "t", Type: api.Int, NotNull: true}}, Key: []int{0}})
}

// P9.2: each key of four columns, each of which may have been not null or not.
func TestDefineKeyColumnsAreNotNull(t *testing.T) {
	names := []string{"a", "b", "c", "d"}
	for _, key := range lists(api.MaxKeys, 0, len(names)) {
		if !mayStand(key, 0, 1, 2, 3) {
			continue
		}
		for mask := range 1 << len(names) {
			s := api.Statement{Kind: api.MakeTable, Table: "t"}
			want := api.Table{Name: "t", Key: key}
			for i, name := range names {
				c := api.Column{Name: name, Type: api.Truth + i%3, NotNull: mask>>i&1 == 1}
				s.Columns = append(s.Columns, c)
				c.NotNull = c.NotNull || slices.Contains(key, i)
				want.Columns = append(want.Columns, c)
			}
			for _, place := range key {
				s.Names = append(s.Names, names[place])
			}
			checkDefine(t, smallest()[:0], s, []api.Table{want}, api.OK)
		}
	}
}

// toldOfNames: what P9.2 tells of Names, one by one, where there are these columns, and their places.
func toldOfNames(names []string, columns string) ([]int, api.Errno) {
	var places []int
	for i, name := range names {
		place := slices.Index([]byte(columns), name[0])
		switch {
		case place == -1:
			return nil, api.ErrNone
		case slices.Contains(names[:i], name):
			return nil, api.ErrTwice
		}
		places = append(places, place)
	}
	return places, api.OK
}

// P9.2: all Names of a, b, c, two that no column has, and their order.
func TestDefineNames(t *testing.T) {
	l := []api.Table{{Name: "t", Columns: []api.Column{{Name: "c", Type: api.Int, NotNull: true}, {Name: "a", Type: api.Text}, {Name: "b", Type: api.Truth}}, Key: []int{0}}}
	count := map[api.Errno]int{}
	for _, list := range lists(api.MaxKeys, 0, 5) {
		if len(list) == 0 {
			continue
		}
		var names []string
		for _, i := range list {
			names = append(names, []string{"a", "q", "b", "r", "c"}[i])
		}
		places, code := toldOfNames(names, "cab")
		count[code]++
		var index, table []api.Table
		if code == api.OK {
			x := l[0]
			x.Indexes = []api.Index{{Name: "i", Places: places}}
			index = []api.Table{x}
			x = api.Table{Name: "u", Columns: slices.Clone(l[0].Columns), Key: places}
			for _, place := range places {
				x.Columns[place].NotNull = true
			}
			table = []api.Table{l[0], x}
		}
		checkDefine(t, l, api.Statement{Kind: api.MakeIndex, Name: "i", Table: "t", Names: names}, index, code)
		checkDefine(t, l, api.Statement{Kind: api.MakeTable, Table: "u", Columns: l[0].Columns, Names: names}, table, code)
	}
	// Of one Name 3 have a column, of two 6, of three 6; twice are 3 and then of three 3 * 5 + 6 * 2.
	if want := map[api.Errno]int{api.OK: 15, api.ErrTwice: 30, api.ErrNone: 110}; !reflect.DeepEqual(count, want) {
		t.Errorf("told: %v, want %v", count, want)
	}
}

// P9.2: ErrFull.
func TestDefineTableTooMany(t *testing.T) {
	for _, source := range []string{
		"create table new ( a int , primary key ( a ) )",
		// What else would be refused is not told.
		"create table eleven_bytea ( a int , primary key ( a ) )",
		"create table eleven_byted ( a int , a int , primary key ( q , q ) )",
		"create table new ( a int , a int , primary key ( a ) )",
		"create table new ( a int , primary key ( q ) )",
		"create table new ( a int , primary key ( a , a ) )",
	} {
		refuses(t, greatest(), source, api.ErrFull)
	}
}

// P9.2: ErrTwice, of the table.
func TestDefineTableTwice(t *testing.T) {
	for _, l := range catalogs() {
		if len(l) == api.MaxTables {
			continue
		}
		for _, x := range l {
			refuses(t, l, "create table "+x.Name+" ( a int , primary key ( a ) )", api.ErrTwice)
			// What else would be refused is not told.
			refuses(t, l, "create table "+x.Name+" ( a int , primary key ( q ) )", api.ErrTwice)
			refuses(t, l, "create table "+x.Name+" ( a int , a int , primary key ( q ) )", api.ErrTwice)
		}
	}
}

// P9.2: ErrTwice, of columns.
func TestDefineColumnsTwice(t *testing.T) {
	for n := 2; n <= api.MaxCols; n++ {
		for i := range n {
			for j := range i {
				s := api.Statement{Kind: api.MakeTable, Table: "new", Columns: columns(n), Names: []string{"c0"}}
				s.Columns[i].Name = s.Columns[j].Name
				for _, names := range [][]string{{"c0"}, {s.Columns[i].Name}, {"q"}, {"c0", "c0"}, {"c0", "q", "c0"}} {
					s.Names = names
					checkDefine(t, nil, s, nil, api.ErrTwice)
					checkDefine(t, several(), s, nil, api.ErrTwice)
				}
			}
		}
	}
	refuses(t, nil, "create table t ( a int , b int , a int , primary key ( b ) )", api.ErrTwice)
	refuses(t, nil, "create table t ( a int , A int , primary key ( a ) )", api.ErrTwice)
	// Columns of several tables may have one Name.
	defines(t, several(), "create table new ( a int , primary key ( a ) )", api.Table{Name: "new", Columns: []api.Column{{Name: "a", Type: api.Int, NotNull: true}}, Key: []int{0}})
}

// P9.2: of the Names of a key, one by one.
func TestDefineKeyNames(t *testing.T) {
	for _, l := range [][]api.Table{nil, several()} {
		for names, code := range map[string]api.Errno{
			"q": api.ErrNone, "a , q": api.ErrNone, "a , b , q": api.ErrNone, "q , a": api.ErrNone, "q , q": api.ErrNone, "q , a , a": api.ErrNone, "a , q , a": api.ErrNone,
			"a , a": api.ErrTwice, "a , a , q": api.ErrTwice, "a , b , a": api.ErrTwice, "b , a , a": api.ErrTwice, "a , a , a": api.ErrTwice,
			"new": api.ErrNone, "none": api.ErrNone, "e": api.ErrNone, "i": api.ErrNone,
		} {
			refuses(t, l, "create table new ( a int , b text not null , primary key ( "+names+" ) )", code)
		}
	}
}

// P9.2: each of several tables gets one, the others are as they were.
func TestDefineIndex(t *testing.T) {
	l := several()
	indexes(t, l, "create index new on none ( b )", 0, api.Index{Name: "new", Places: []int{1}})
	indexes(t, l, "create index new on none ( b , a )", 0, api.Index{Name: "new", Places: []int{1, 0}})
	indexes(t, l, "create index new on one ( b , a , c )", 1, api.Index{Name: "new", Places: []int{2, 0, 1}})
	indexes(t, l, "create index j on one ( a )", 1, api.Index{Name: "j", Places: []int{0}})
	indexes(t, l, "create index twelve_bytes on one ( c )", 1, api.Index{Name: "twelve_bytes", Places: []int{1}})
	indexes(t, smallest(), "create index i on t ( a )", 0, api.Index{Name: "i", Places: []int{0}})
	// Names that other tables' indexes, tables and columns have are free.
	for _, name := range []string{"i", "j", "none", "one", "a", "b"} {
		indexes(t, l, "create index "+name+" on none ( a )", 0, api.Index{Name: name, Places: []int{0}})
	}
	for n := range api.MaxIndex {
		for at := range greatest() {
			x := greatest()
			x[at].Indexes = x[at].Indexes[:n]
			indexes(t, x, "create index zz on "+x[at].Name+" ( _6 , b , d )", at, api.Index{Name: "zz", Places: []int{5, 1, 3}})
		}
	}
}

// P9.2: ErrNone, of the table.
func TestDefineIndexOfNoTable(t *testing.T) {
	for _, l := range catalogs() {
		for _, source := range []string{"create index new on nothing ( a )", "create index i on nothing ( q )", "create index i on nothing ( a , a )", "create index i on i ( a )", "create index i on b ( b )"} {
			refuses(t, l, source, api.ErrNone)
		}
	}
}

// P9.2: ErrFull, of the index.
func TestDefineIndexTooMany(t *testing.T) {
	l := several()
	for _, source := range []string{
		"create index new on two ( d )",
		// What else would be refused is not told.
		"create index i on two ( d )",
		"create index j on two ( q )",
		"create index new on two ( q )",
		"create index new on two ( d , d )",
	} {
		refuses(t, l, source, api.ErrFull)
	}
	for _, x := range greatest() {
		refuses(t, greatest(), "create index new on "+x.Name+" ( b )", api.ErrFull)
	}
}

// P9.2: ErrTwice, of the index.
func TestDefineIndexTwice(t *testing.T) {
	for _, names := range []string{"a", "b", "c , b , a", "q", "a , a", "q , q"} {
		refuses(t, several(), "create index i on one ( "+names+" )", api.ErrTwice)
	}
}

// P9.2: of the Names of an index, one by one.
func TestDefineIndexNames(t *testing.T) {
	for names, code := range map[string]api.Errno{
		"q": api.ErrNone, "a , q": api.ErrNone, "a , b , q": api.ErrNone, "q , a": api.ErrNone, "q , q": api.ErrNone, "q , a , a": api.ErrNone, "a , q , a": api.ErrNone,
		"a , a": api.ErrTwice, "a , a , q": api.ErrTwice, "a , b , a": api.ErrTwice, "b , a , a": api.ErrTwice, "a , a , a": api.ErrTwice,
		"one": api.ErrNone, "i": api.ErrNone, "d": api.ErrNone, "b , e": api.ErrNone,
	} {
		refuses(t, several(), "create index new on one ( "+names+" )", code)
	}
	// c is a column of another table only.
	refuses(t, several(), "create index new on none ( c )", api.ErrNone)
}

// Lists that share memory where they are handed in share none in the answer.
func TestDefineTakesListsApart(t *testing.T) {
	places := []int{0, 1, 2}
	c := append(columns(3), api.Column{Name: "x", Type: api.Int})
	l := []api.Table{
		{Name: "t", Columns: c[:3], Key: places, Indexes: []api.Index{{Name: "i", Places: places}}},
		{Name: "u", Columns: c, Key: places[1:], Indexes: []api.Index{{Name: "i", Places: places[:2]}}},
	}
	l[1].Indexes = l[0].Indexes
	checkDefine(t, l, api.Statement{Kind: api.MakeTable, Table: "v", Columns: c, Names: []string{"x"}}, []api.Table{
		l[0], l[1], {Name: "v", Columns: append(columns(3), api.Column{Name: "x", Type: api.Int, NotNull: true}), Key: []int{3}},
	}, api.OK)
	indexes(t, l, "create index j on u ( x )", 1, api.Index{Name: "j", Places: []int{3}})
	got, _ := Define(l, api.Statement{Kind: api.MakeTable, Table: "v", Columns: c, Names: []string{"x"}})
	kept := wholeOf(got)
	clear(places)
	clear(c)
	clear(l)
	if wholeOf(got) != kept {
		t.Errorf("%s is changed from outside: %s", kept, wholeOf(got))
	}
}
