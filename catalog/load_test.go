package catalog

import (
	"fmt"
	"slices"
	"strings"
	"testing"

	"commonhold/api"
)

// checkLoad: what Load answers; the sources stay as they were.
func checkLoad(t *testing.T, l []string, want []api.Table, place int, code api.Errno) {
	t.Helper()
	x := roomy(l, "create table spare ( a int , primary key ( a ) )")
	kept := wholeOf(x)
	got, at, e := Load(x)
	if at != place || e != code || !same(got, want) {
		t.Errorf("Load(%s): %s, %d, %d, want %s, %d, %d", brief(l), brief(got), at, e, brief(want), place, code)
	}
	if e == api.OK && !Fits(got) {
		t.Errorf("Load(%s) does not fit: %s", brief(l), brief(got))
	}
	if wholeOf(x) != kept {
		t.Errorf("%s is now %s", kept, wholeOf(x))
	}
	again, _, _ := Load(x)
	checkApart(t, got, again)
	if !same(again, got) {
		t.Errorf("Load(%s): %s, and then %s", brief(l), brief(got), brief(again))
	}
}

// good: sources that define a catalog of three tables, with room for one more.
func good() []string {
	return []string{
		"create table t ( a int , b text , c truth , d int , primary key ( a ) )",
		"create index td on t ( d )",
		"create table u ( x int , y text not null , z int , primary key ( y , x ) )",
		"create index tb on t ( b , d )",
		"Create Table V ( A Int , Primary Key ( A ) ) -- the last one",
		"\n\tcreate\nindex -- of another table\n\ttd on u(z,y,x)\r\n",
	}
}

// goodTables: what good defines.
func goodTables() []api.Table {
	return []api.Table{
		{
			Name:    "t",
			Columns: []api.Column{{Name: "a", Type: api.Int, NotNull: true}, {Name: "b", Type: api.Text}, {Name: "c", Type: api.Truth}, {Name: "d", Type: api.Int}},
			Key:     []int{0},
			Indexes: []api.Index{{Name: "td", Places: []int{3}}, {Name: "tb", Places: []int{1, 3}}},
		},
		{
			Name:    "u",
			Columns: []api.Column{{Name: "x", Type: api.Int, NotNull: true}, {Name: "y", Type: api.Text, NotNull: true}, {Name: "z", Type: api.Int}},
			Key:     []int{1, 0},
			Indexes: []api.Index{{Name: "td", Places: []int{2, 1, 0}}},
		},
		{Name: "v", Columns: []api.Column{{Name: "a", Type: api.Int, NotNull: true}}, Key: []int{0}},
	}
}

// P9.3
func TestLoad(t *testing.T) {
	checkLoad(t, nil, nil, 0, api.OK)
	checkLoad(t, []string{}, nil, 0, api.OK)
	checkLoad(t, []string{"create table t ( a truth , primary key ( a ) )"}, smallest(), 0, api.OK)
	checkLoad(t, good(), goodTables(), 0, api.OK)
}

// sourcesOf: sources that define a catalog; first all tables, or each one's indexes behind it.
func sourcesOf(l []api.Table, tablesFirst bool) []string {
	var tables, rest []string
	for _, x := range l {
		var names, key []string
		for _, c := range x.Columns {
			source := c.Name + []string{"", " truth", " int", " text"}[c.Type]
			if c.NotNull {
				source += " not null"
			}
			names = append(names, source)
		}
		for _, place := range x.Key {
			key = append(key, x.Columns[place].Name)
		}
		tables = append(tables, fmt.Sprintf("create table %s (%s, primary key (%s))", x.Name, strings.Join(names, ","), strings.Join(key, ",")))
		for _, index := range x.Indexes {
			var names []string
			for _, place := range index.Places {
				names = append(names, x.Columns[place].Name)
			}
			source := fmt.Sprintf("create index %s on %s(%s)", index.Name, x.Name, strings.Join(names, ","))
			if tablesFirst {
				rest = append(rest, source)
			} else {
				tables = append(tables, source)
			}
		}
	}
	return append(tables, rest...)
}

// P9.3: each catalog that fits is one that sources define.
func TestLoadAnyCatalog(t *testing.T) {
	for _, l := range append(catalogs(), []api.Table{base()}, goodTables()) {
		for _, first := range []bool{true, false} {
			checkLoad(t, sourcesOf(l, first), l, 0, api.OK)
		}
	}
	full := sourcesOf(greatest(), true)
	if len(full) != api.MaxTables*(1+api.MaxIndex) {
		t.Fatalf("%d sources", len(full))
	}
	for _, source := range []string{"create table new ( a int , primary key ( a ) )", "create index new on eleven_bytec ( b )"} {
		checkLoad(t, append(slices.Clone(full), source), nil, len(full), api.ErrFull)
	}
}

// P9.3: as their statements do one by one.
func TestLoadIsDefineOneByOne(t *testing.T) {
	for _, sources := range [][]string{good(), sourcesOf(greatest(), true), sourcesOf(greatest(), false), sourcesOf(several(), true)} {
		var tables []api.Table
		for i, source := range sources {
			checkLoad(t, sources[:i], tables, 0, api.OK)
			next, code := Define(tables, read(t, source))
			if code != api.OK {
				t.Fatalf("%q is not defined: %d", source, code)
			}
			tables = next
		}
		checkLoad(t, sources, tables, 0, api.OK)
	}
}

// refused: a source, and what is told of it.
type refused struct {
	source string
	code   api.Errno
}

// alwaysRefused: sources that are refused behind whatever others.
func alwaysRefused() []refused {
	long := "create table w ( a int , primary key ( a ) )"
	return []refused{
		// What Cut refuses.
		{long + strings.Repeat(" ", api.MaxSource+1-len(long)), api.ErrSize},
		{"create table w ( a int , primary key ( a ) ) ;", api.ErrForm},
		{"#", api.ErrForm},
		{"create table w ( a int , primary key ( a ) ) '", api.ErrShort},
		{"create table thirteen_byte ( a int , primary key ( a ) )", api.ErrSize},
		{"insert into t values ( 9223372036854775808 )", api.ErrOver},
		{"insert into t values ( '" + strings.Repeat("x", api.MaxText+1) + "' )", api.ErrSize},
		{"insert into t values ( '\xff' )", api.ErrForm},
		{strings.Repeat("( ", api.MaxTokens+1), api.ErrFull},
		// What Cut refuses is told, whatever Parse would refuse ahead of it.
		{"drop table 'x", api.ErrShort},
		// What Parse refuses.
		{"", api.ErrShort},
		{" -- nothing", api.ErrShort},
		{"create table", api.ErrShort},
		{"create table w ( a int , primary key ( a )", api.ErrShort},
		{"create index i on t", api.ErrShort},
		{"create table 5", api.ErrForm},
		{"create table select ( a int , primary key ( a ) )", api.ErrForm},
		{"create table w ( a int )", api.ErrForm},
		{"create table w ( a int , primary key ( a ) ) create", api.ErrForm},
		{"create table w ( a int , primary key ( a ) ) , create table x ( a int , primary key ( a ) )", api.ErrForm},
		{"drop table t", api.ErrForm},
		// What Define refuses.
		{"create table w ( a int , b int , c int , d int , e int , f int , g int , primary key ( a ) )", api.ErrForm},
		{"create table w ( a int , b int , c int , d int , primary key ( a , b , c , d ) )", api.ErrForm},
		{"create index i on t ( a , b , c , d )", api.ErrForm},
		{"insert into t values ( 1 , 2 , 3 , 4 , 5 , 6 , 7 , 8 , 9 )", api.ErrForm},
		{"insert into t values ( 1 , 'b' , true , 2 )", api.ErrKind},
		{"update t set b = 'c'", api.ErrKind},
		{"delete from t", api.ErrKind},
		{"select * from t", api.ErrKind},
		{"create table w ( a int , a text , primary key ( a ) )", api.ErrTwice},
		{"create table w ( a int , primary key ( b ) )", api.ErrNone},
		{"create table w ( a int , primary key ( a , a ) )", api.ErrTwice},
		{"create index i on w ( a )", api.ErrNone},
	}
}

// P9.3: as the first one, between others, and as the last one.
func TestLoadTellsWhichSource(t *testing.T) {
	for _, r := range alwaysRefused() {
		for place := range len(good()) + 1 {
			l := slices.Insert(good(), place, r.source)
			checkLoad(t, l, nil, place, r.code)
			checkLoad(t, l[:place+1], nil, place, r.code)
		}
		checkLoad(t, []string{r.source}, nil, 0, r.code)
	}
}

// P9.3: of several the first one is told.
func TestLoadTellsTheFirst(t *testing.T) {
	for _, r := range alwaysRefused() {
		for _, o := range alwaysRefused() {
			checkLoad(t, []string{good()[0], r.source, good()[1], o.source, good()[2]}, nil, 1, r.code)
		}
	}
}

// P9.3: what Define refuses only behind other sources.
func TestLoadWhatComesBehindOthers(t *testing.T) {
	for _, r := range []refused{
		{"create table t ( q int , primary key ( q ) )", api.ErrTwice},
		{"create table v ( q int , primary key ( r ) )", api.ErrTwice},
		{"create index i on t ( a )", api.ErrFull},
		{"create index td on u ( x )", api.ErrTwice},
		{"create index i on u ( x , q )", api.ErrNone},
		{"create index i on u ( x , x )", api.ErrTwice},
	} {
		checkLoad(t, append(good(), r.source), nil, len(good()), r.code)
		checkLoad(t, append(good(), r.source, "create table w ( a int , primary key ( a ) )"), nil, len(good()), r.code)
	}
	// An index ahead of its table.
	checkLoad(t, []string{good()[1], good()[0]}, nil, 0, api.ErrNone)
	// Each source twice, one behind the other; then the second index of t is one too many.
	for i, source := range good() {
		want := api.ErrTwice
		if i == 3 {
			want = api.ErrFull
		}
		checkLoad(t, slices.Insert(good(), i, source), nil, i+1, want)
	}
}

// A source as long as may be, and as many tokens as may be, are cut; a great many sources come to an end.
func TestLoadAtBounds(t *testing.T) {
	source := "create table t ( a truth , primary key ( a ) )"
	checkLoad(t, []string{source + strings.Repeat(" ", api.MaxSource-len(source))}, smallest(), 0, api.OK)
	checkLoad(t, []string{strings.Repeat("( ", api.MaxTokens)}, nil, 0, api.ErrForm)
	if l, at, code := Load(slices.Repeat([]string{source}, 1<<20)); len(l) != 0 || at != 1 || code != api.ErrTwice {
		t.Errorf("Load of a million: %s, %d, %d", brief(l), at, code)
	}
	if l, at, code := Load(make([]string, 1<<20)); len(l) != 0 || at != 0 || code != api.ErrShort {
		t.Errorf("Load of a million of nothing: %s, %d, %d", brief(l), at, code)
	}
}
