package catalog

import (
	"fmt"
	"math"
	"slices"
	"strings"
	"testing"

	"commonhold/api"
)

func checkFits(t *testing.T, l []api.Table, want bool) {
	t.Helper()
	for _, x := range [][]api.Table{l, roomyTables(l)} {
		kept := wholeOf(x)
		if got := Fits(x); got != want {
			t.Errorf("Fits(%s): %t", brief(x), got)
		}
		if now := wholeOf(x); now != kept {
			t.Errorf("%s is now %s", kept, now)
		}
	}
}

// checkTable puts a table alone, and in each place among others.
func checkTable(t *testing.T, x api.Table, want bool) {
	t.Helper()
	checkFits(t, []api.Table{x}, want)
	for i := range api.MaxTables {
		checkFits(t, with(greatest(), i, x), want)
	}
}

// base: a table that fits, with room for one more of everything.
func base() api.Table {
	return api.Table{
		Name:    "t",
		Columns: []api.Column{{Name: "a", Type: api.Int, NotNull: true}, {Name: "b", Type: api.Text}, {Name: "c", Type: api.Truth, NotNull: true}, {Name: "d", Type: api.Int, NotNull: true}},
		Key:     []int{2, 0},
		Indexes: []api.Index{{Name: "i", Places: []int{1, 3}}},
	}
}

func fits(t *testing.T, change func(*api.Table)) {
	t.Helper()
	x := base()
	change(&x)
	checkTable(t, x, true)
}

// fitsNot: a table that would fit, if it were not for one change.
func fitsNot(t *testing.T, change func(*api.Table)) {
	t.Helper()
	for _, x := range []api.Table{base(), greatTable("x")} {
		change(&x)
		checkTable(t, x, false)
	}
}

// P9.1
func TestCatalogsThatFit(t *testing.T) {
	for _, l := range catalogs() {
		checkFits(t, l, true)
	}
	checkFits(t, []api.Table{base()}, true)
	fits(t, func(*api.Table) {})
}

// P9.1
func TestHowManyTables(t *testing.T) {
	many := func(n int) []api.Table {
		var l []api.Table
		for i := range n {
			x := base()
			x.Name = fmt.Sprintf("t%d", i)
			l = append(l, x)
		}
		return l
	}
	for n := range api.MaxTables + 1 {
		checkFits(t, many(n), true)
	}
	for _, n := range []int{api.MaxTables + 1, api.MaxTables + 2, 2 * api.MaxTables, 1000} {
		checkFits(t, many(n), false)
	}
	if Fits(make([]api.Table, 1<<20)) {
		t.Error("a million of nothing fits")
	}
	checkFits(t, make([]api.Table, 1), false)
}

// P9.1
func TestNamesOfTables(t *testing.T) {
	for _, name := range wrongNames() {
		fitsNot(t, func(x *api.Table) { x.Name = name })
	}
	for _, name := range []string{"a", "_", "_1", "twelve_bytes", "selects", "i"} {
		fits(t, func(x *api.Table) { x.Name = name })
	}
}

// P9.1
func TestTwoTablesOfOneName(t *testing.T) {
	for i := range api.MaxTables {
		for j := range i {
			l := greatest()
			l[i].Name = l[j].Name
			checkFits(t, l, false)
			l[i] = base()
			l[i].Name = l[j].Name
			checkFits(t, l, false)
			checkFits(t, []api.Table{l[i], l[j]}, false)
		}
	}
	// Of columns and indexes a table may have the Name, and another table's, too.
	l := several()
	l[0].Name, l[1].Name, l[2].Name = "a", "i", "d"
	checkFits(t, l, true)
}

// columns: so many, of several Names.
func columns(n int) []api.Column {
	var l []api.Column
	for i := range n {
		l = append(l, api.Column{Name: fmt.Sprintf("c%d", i), Type: api.Truth + i%3, NotNull: true})
	}
	return l
}

// P9.1
func TestHowManyColumns(t *testing.T) {
	for n := 1; n <= api.MaxCols; n++ {
		for last := range n {
			fits(t, func(x *api.Table) {
				x.Columns, x.Key, x.Indexes = columns(n), []int{last}, []api.Index{{Name: "i", Places: []int{last}}}
			})
		}
	}
	for _, n := range []int{api.MaxCols + 1, api.MaxCols + 2, 2 * api.MaxCols, 1000} {
		fitsNot(t, func(x *api.Table) { x.Columns = columns(n) })
		fitsNot(t, func(x *api.Table) { x.Columns, x.Key, x.Indexes = columns(n), []int{0}, nil })
	}
	for _, none := range [][]api.Column{nil, {}} {
		fitsNot(t, func(x *api.Table) { x.Columns = none })
		fitsNot(t, func(x *api.Table) { x.Columns, x.Key, x.Indexes = none, nil, nil })
		fitsNot(t, func(x *api.Table) { x.Columns, x.Key, x.Indexes = none, []int{0}, nil })
		fitsNot(t, func(x *api.Table) { *x = api.Table{Name: "x", Columns: none} })
	}
	fitsNot(t, func(x *api.Table) { x.Columns = make([]api.Column, len(x.Columns)) })
}

// P9.1
func TestNamesAndTypesOfColumns(t *testing.T) {
	change := func(place int, change func(*api.Column)) func(*api.Table) {
		return func(x *api.Table) {
			c := x.Columns[place]
			change(&c)
			x.Columns = with(x.Columns, place, c)
		}
	}
	for place := range base().Columns {
		for _, name := range wrongNames() {
			fitsNot(t, change(place, func(c *api.Column) { c.Name = name }))
		}
		for _, kind := range wrongTypes() {
			fitsNot(t, change(place, func(c *api.Column) { c.Type = kind }))
		}
		for _, kind := range []int{api.Truth, api.Int, api.Text} {
			fits(t, change(place, func(c *api.Column) { c.Type = kind }))
		}
		for _, name := range []string{"t", "i", "_", "twelve_bytes"} {
			fits(t, change(place, func(c *api.Column) { c.Name = name }))
		}
		fits(t, change(place, func(c *api.Column) { c.NotNull = true }))
	}
	for place := range greatTable("x").Columns {
		x := greatTable("x")
		x.Columns[place].Name = "select"
		checkTable(t, x, false)
	}
}

// P9.1
func TestTwoColumnsOfOneName(t *testing.T) {
	for _, fresh := range []func() api.Table{base, func() api.Table { return greatTable("x") }} {
		for i := range fresh().Columns {
			for j := range i {
				x := fresh()
				x.Columns[i].Name = x.Columns[j].Name
				checkTable(t, x, false)
				x.Columns[i] = x.Columns[j]
				checkTable(t, x, false)
			}
		}
	}
	// Columns of two tables may have one Name: those of greatest all do.
	checkFits(t, greatest(), true)
}

// lists: all lists of a length up to most, of places from low on, below high.
func lists(most, low, high int) [][]int {
	all := [][]int{nil}
	for from := 0; most > 0; most-- {
		end := len(all)
		for _, l := range all[from:end] {
			for x := low; x < high; x++ {
				all = append(all, append(slices.Clone(l), x))
			}
		}
		from = end
	}
	return all
}

// mayStand: what P9.1 says of the places of columns, of which only some may stand there.
func mayStand(l []int, may ...int) bool {
	for i, x := range l {
		if !slices.Contains(may, x) || slices.Contains(l[:i], x) {
			return false
		}
	}
	return len(l) == 1 || len(l) == 2 || len(l) == 3
}

// P9.1: each Key of up to one place more than may be, with each of the columns NotNull or not.
func TestKeys(t *testing.T) {
	const width = 4
	if api.MaxKeys != 3 {
		t.Fatal("MaxKeys is another one than the tests here take it for")
	}
	fit := 0
	for _, key := range lists(api.MaxKeys+1, -1, width+1) {
		for mask := range 1 << width {
			x := api.Table{Name: "t", Columns: columns(width), Key: key}
			var filled []int
			for i := range width {
				x.Columns[i].NotNull = mask>>i&1 == 1
				if x.Columns[i].NotNull {
					filled = append(filled, i)
				}
			}
			want := mayStand(key, filled...)
			if got := Fits([]api.Table{x}); got != want {
				t.Fatalf("Fits(%+v): %t", x, got)
			}
			if want {
				fit++
			}
		}
	}
	// 4 of one place, 12 of two, 24 of three, each with the masks that have those.
	if fit != 4*8+12*4+24*2 {
		t.Errorf("%d keys fit", fit)
	}
}

// P9.1: each list of Places of up to one more than may be, in each of the indexes; NotNull does not matter.
func TestPlacesOfIndexes(t *testing.T) {
	const width = 4
	for _, places := range lists(api.MaxKeys+1, -1, width+1) {
		for at := range api.MaxIndex {
			x := base()
			x.Indexes = with([]api.Index{{Name: "i", Places: []int{1, 3}}, {Name: "j", Places: []int{0}}}, at, api.Index{Name: "k", Places: places})
			want := mayStand(places, 0, 1, 2, 3)
			if got := Fits([]api.Table{x}); got != want {
				t.Fatalf("Fits(%+v): %t", x, got)
			}
			x.Indexes = x.Indexes[at : at+1]
			if got := Fits([]api.Table{x}); got != want {
				t.Fatalf("Fits(%+v): %t", x, got)
			}
		}
	}
}

// P9.1
func TestWrongKeys(t *testing.T) {
	for _, none := range [][]int{nil, {}} {
		fitsNot(t, func(x *api.Table) { x.Key = none })
		fitsNot(t, func(x *api.Table) { x.Key, x.Indexes = none, nil })
	}
	for _, place := range append(wrongPlaces(4), 4, 5) {
		x := base()
		for i := range x.Key {
			x.Key = with(base().Key, i, place)
			checkTable(t, x, false)
		}
		x.Key = []int{place}
		checkTable(t, x, false)
		x.Key = []int{0, 2, place}
		checkTable(t, x, false)
	}
	for _, place := range wrongPlaces(api.MaxCols) {
		for i := range api.MaxKeys {
			x := greatTable("x")
			x.Key[i] = place
			checkTable(t, x, false)
		}
	}
	fitsNot(t, func(x *api.Table) { x.Columns, x.Key = columns(api.MaxCols), []int{0, 1, 2, 3} })
	fitsNot(t, func(x *api.Table) { x.Key = slices.Repeat([]int{2}, 1000) })
	fitsNot(t, func(x *api.Table) { x.Key = []int{2, 2} })
	fits(t, func(x *api.Table) { x.Key = []int{3, 0, 2} })
	fits(t, func(x *api.Table) { x.Key = []int{3} })
}

// P9.1
func TestKeysThatMayBeNull(t *testing.T) {
	for _, fresh := range []func() api.Table{base, func() api.Table { return greatTable("x") }} {
		for _, place := range fresh().Key {
			x := fresh()
			x.Columns[place].NotNull = false
			checkTable(t, x, false)
		}
	}
	for place := range base().Columns {
		x := base()
		x.Key = []int{place}
		checkTable(t, x, x.Columns[place].NotNull)
	}
}

// P9.1
func TestHowManyIndexes(t *testing.T) {
	many := func(n int) []api.Index {
		var l []api.Index
		for i := range n {
			l = append(l, api.Index{Name: fmt.Sprintf("i%d", i), Places: []int{2}})
		}
		return l
	}
	for n := range api.MaxIndex + 1 {
		fits(t, func(x *api.Table) { x.Indexes = many(n) })
	}
	fits(t, func(x *api.Table) { x.Indexes = []api.Index{} })
	for _, n := range []int{api.MaxIndex + 1, api.MaxIndex + 2, 2 * api.MaxIndex, 1000} {
		fitsNot(t, func(x *api.Table) { x.Indexes = many(n) })
	}
	fitsNot(t, func(x *api.Table) { x.Indexes = make([]api.Index, 1) })
}

// P9.1
func TestNamesOfIndexes(t *testing.T) {
	two := func(a, b string) func(*api.Table) {
		return func(x *api.Table) {
			x.Indexes = []api.Index{{Name: a, Places: []int{2}}, {Name: b, Places: []int{1, 0}}}
		}
	}
	for _, name := range wrongNames() {
		fitsNot(t, two(name, "i"))
		fitsNot(t, two("i", name))
		fitsNot(t, func(x *api.Table) { x.Indexes = []api.Index{{Name: name, Places: []int{1}}} })
	}
	for _, name := range []string{"i", "t", "a", "twelve_bytes"} {
		fitsNot(t, two(name, name))
		fits(t, two(name, "j"))
		fits(t, two("j", name))
		fits(t, func(x *api.Table) { x.Indexes = []api.Index{{Name: name, Places: []int{1}}} })
	}
	// Two that have the same Places differ by their Names.
	fits(t, func(x *api.Table) {
		x.Indexes = []api.Index{{Name: "i", Places: []int{2}}, {Name: "j", Places: []int{2}}}
	})
	fitsNot(t, func(x *api.Table) {
		x.Indexes = []api.Index{{Name: "i", Places: []int{2}}, {Name: "i", Places: []int{2}}}
	})
	// Of two tables they may have one Name.
	a, b := base(), base()
	b.Name = "u"
	checkFits(t, []api.Table{a, b}, true)
}

// P9.1
func TestWrongPlacesOfIndexes(t *testing.T) {
	for at := range api.MaxIndex {
		for i := range api.MaxKeys {
			for _, place := range wrongPlaces(api.MaxCols) {
				x := greatTable("x")
				x.Indexes[at].Places[i] = place
				checkTable(t, x, false)
			}
			for j := range i {
				x := greatTable("x")
				x.Indexes[at].Places[i] = x.Indexes[at].Places[j]
				checkTable(t, x, false)
			}
		}
		for _, l := range [][]int{nil, {}, {0, 1, 2, 3}, slices.Repeat([]int{0}, 1000), {math.MinInt64}} {
			x := greatTable("x")
			x.Indexes[at].Places = l
			checkTable(t, x, false)
		}
		for i := 1; i <= api.MaxKeys; i++ {
			x := greatTable("x")
			x.Indexes[at].Places = []int{5, 0, 3}[:i]
			checkTable(t, x, true)
		}
	}
	fitsNot(t, func(x *api.Table) { x.Indexes = []api.Index{{Name: "i"}} })
	fitsNot(t, func(x *api.Table) { x.Indexes = []api.Index{{Name: "i", Places: []int{1, 1}}} })
	// A place is one of its own table's columns, not of another one's.
	a, b := base(), smallest()[0]
	b.Name, b.Indexes = "u", []api.Index{{Name: "i", Places: []int{1}}}
	checkFits(t, []api.Table{a, b}, false)
}

// The names here are as long as the limit says.
func TestLimits(t *testing.T) {
	if len("twelve_bytes") != api.MaxName || len("thirteen_byte") != api.MaxName+1 || len(greatTable("x").Name) != api.MaxName || len(strings.Fields(strings.Join(keptWords(), " "))) != 35 {
		t.Fatal("MaxName is another one than the names here take it for")
	}
	x := greatTable("x")
	if len(greatest()) != api.MaxTables || len(x.Columns) != api.MaxCols || len(x.Key) != api.MaxKeys || len(x.Indexes) != api.MaxIndex {
		t.Fatal("greatest is not as great as may be")
	}
}
