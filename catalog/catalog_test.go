package catalog

import (
	"fmt"
	"math"
	"reflect"
	"slices"
	"strings"
	"testing"

	"commonhold/api"
	"commonhold/lex"
	"commonhold/parse"
)

// brief: what is told of something, as a text that is not too long.
func brief(x any) string {
	text := fmt.Sprintf("%+v", x)
	if len(text) > 600 {
		return text[:600] + ".."
	}
	return text
}

// read: the statement that a source is.
func read(t *testing.T, source string) api.Statement {
	t.Helper()
	tokens, _, code := lex.Cut(source)
	if code != api.OK {
		t.Fatalf("%q is not cut: %d", source, code)
	}
	s, _, code := parse.Parse(tokens)
	if code != api.OK {
		t.Fatalf("%q is not read: %d", source, code)
	}
	return s
}

// smallest: a catalog of one table that is as small as may be.
func smallest() []api.Table {
	return []api.Table{{Name: "t", Columns: []api.Column{{Name: "a", Type: api.Truth, NotNull: true}}, Key: []int{0}}}
}

// greatTable: a table that is as great as may be, whose Name ends so.
func greatTable(end string) api.Table {
	return api.Table{
		Name: "eleven_byte" + end,
		Columns: []api.Column{
			{Name: "eleven_bytea", Type: api.Truth}, {Name: "b", Type: api.Int, NotNull: true}, {Name: "c", Type: api.Text, NotNull: true},
			{Name: "d", Type: api.Int}, {Name: "e", Type: api.Text}, {Name: "_6", Type: api.Truth, NotNull: true},
		},
		Key:     []int{5, 1, 2},
		Indexes: []api.Index{{Name: "eleven_bytei", Places: []int{0, 4, 5}}, {Name: "j", Places: []int{3, 2, 1}}},
	}
}

// greatest: a catalog that is as great as may be.
func greatest() []api.Table {
	return []api.Table{greatTable("a"), greatTable("b"), greatTable("c"), greatTable("d")}
}

// several: a catalog of three tables, with no, one and two indexes.
func several() []api.Table {
	return []api.Table{
		{Name: "none", Columns: []api.Column{{Name: "a", Type: api.Int, NotNull: true}, {Name: "b", Type: api.Text}}, Key: []int{0}},
		{Name: "one", Columns: []api.Column{{Name: "a", Type: api.Text}, {Name: "c", Type: api.Truth, NotNull: true}, {Name: "b", Type: api.Int, NotNull: true}}, Key: []int{2, 1}, Indexes: []api.Index{{Name: "i", Places: []int{0}}}},
		{Name: "two", Columns: []api.Column{{Name: "d", Type: api.Int, NotNull: true}, {Name: "e", Type: api.Int}}, Key: []int{0}, Indexes: []api.Index{{Name: "i", Places: []int{1}}, {Name: "j", Places: []int{1, 0}}}},
	}
}

// catalogs: some that fit, of no table to MaxTables.
func catalogs() [][]api.Table {
	return [][]api.Table{nil, {}, smallest(), greatest()[:1], several()[:2], several(), greatest()[:3], greatest()}
}

func keptWords() []string {
	return strings.Fields("and by count create delete desc false from group index insert int into is join key limit max min not null on or order primary select set sum table text true truth update values where")
}

// wrongNames: texts that are no NAMES.
func wrongNames() []string {
	return append(keptWords(),
		"", "thirteen_byte", strings.Repeat("a", 100), strings.Repeat("a", 1<<16), "A", "aB", "1", "1a", "a b", " a", "a ", "a.b", "a-b", "*", "'a'", "\u00e4", "a\x00", "\xff", "SELECT",
	)
}

// wrongTypes: numbers that are none of Truth, Int and Text.
func wrongTypes() []int {
	return []int{api.Null, -1, api.Text + 1, api.Text + 2, 1<<32 + api.Int, math.MaxInt64, math.MinInt64}
}

// wrongPlaces: numbers that are no places of so many columns.
func wrongPlaces(columns int) []int {
	return []int{-1, -2, columns, columns + 1, 1 << 32, -1 << 32, math.MaxInt64, math.MinInt64}
}

// with: a copy of a list with another element in one place.
func with[T any](l []T, place int, x T) []T {
	l = slices.Clone(l)
	l[place] = x
	return l
}

// emptied: a list without elements is nil, so that two catalogs can be held against each other.
func emptied[T any](l []T) []T {
	if len(l) == 0 {
		return nil
	}
	return slices.Clone(l)
}

func emptiedTables(l []api.Table) []api.Table {
	l = emptied(l)
	for i, t := range l {
		t.Columns, t.Key, t.Indexes = emptied(t.Columns), emptied(t.Key), emptied(t.Indexes)
		for j, x := range t.Indexes {
			t.Indexes[j].Places = emptied(x.Places)
		}
		l[i] = t
	}
	return l
}

// same: whether two catalogs are, be their empty lists nil or not.
func same(a, b []api.Table) bool {
	return reflect.DeepEqual(emptiedTables(a), emptiedTables(b))
}

// roomy: a copy of a list, with spare room behind it in which something stands.
func roomy[T any](l []T, spare T) []T {
	kept := make([]T, len(l)+3)
	copy(kept, l)
	for i := len(l); i < len(kept); i++ {
		kept[i] = spare
	}
	return kept[:len(l)]
}

// roomyTables: a copy whose lists share nothing, and have spare room. What stands there would fit, too.
func roomyTables(l []api.Table) []api.Table {
	l = roomy(l, smallest()[0])
	for i, t := range l {
		t.Columns = roomy(t.Columns, api.Column{Name: "spare", Type: api.Int, NotNull: true})
		t.Key = roomy(t.Key, 0)
		t.Indexes = roomy(t.Indexes, api.Index{Name: "spare", Places: []int{0}})
		for j, x := range t.Indexes {
			t.Indexes[j].Places = roomy(x.Places, 0)
		}
		l[i] = t
	}
	return l
}

// roomyStatement: as roomyTables. Only what makes tables and indexes is copied.
func roomyStatement(s api.Statement) api.Statement {
	s.Columns = roomy(s.Columns, api.Column{Name: "spare", Type: api.Int, NotNull: true})
	s.Names = roomy(s.Names, "spare")
	return s
}

// whole: all that can be reached from something, the spare room of its lists, too, as a text.
func whole(v reflect.Value) string {
	var b strings.Builder
	switch v.Kind() {
	case reflect.Slice:
		for i := range v.Cap() {
			fmt.Fprintf(&b, "%d: %s, ", i, whole(v.Slice(0, v.Cap()).Index(i)))
		}
		return fmt.Sprintf("[%d of %s]", v.Len(), b.String())
	case reflect.Struct:
		for i := range v.NumField() {
			fmt.Fprintf(&b, "%s, ", whole(v.Field(i)))
		}
		return "{" + b.String() + "}"
	}
	return fmt.Sprintf("%#v", v.Interface())
}

func wholeOf(x any) string { return whole(reflect.ValueOf(x)) }

// stretch: where the memory of a list begins and ends, its spare room counted.
type stretch struct{ low, high uintptr }

// stretches: those of all lists in something.
func stretches(v reflect.Value) []stretch {
	var l []stretch
	switch v.Kind() {
	case reflect.Slice:
		if v.Cap() > 0 {
			low := v.Pointer()
			l = append(l, stretch{low, low + uintptr(v.Cap())*v.Type().Elem().Size()})
		}
		for i := range v.Len() {
			l = append(l, stretches(v.Index(i))...)
		}
	case reflect.Struct:
		for i := range v.NumField() {
			l = append(l, stretches(v.Field(i))...)
		}
	}
	return l
}

// checkApart: no list of an answer shares memory with another one of it, or with one of something else.
func checkApart(t *testing.T, answer []api.Table, others ...any) {
	t.Helper()
	l := stretches(reflect.ValueOf(answer))
	for i, s := range l {
		for _, o := range l[:i] {
			if s.low < o.high && o.low < s.high {
				t.Fatalf("two lists of %s share memory", brief(answer))
			}
		}
	}
	for _, x := range others {
		for _, o := range stretches(reflect.ValueOf(x)) {
			for _, s := range l {
				if s.low < o.high && o.low < s.high {
					t.Fatalf("%s shares memory with %s", brief(answer), brief(x))
				}
			}
		}
	}
}

// The checks themselves find what they are there for.
func TestChecksFindSharing(t *testing.T) {
	a := []int{1, 2, 3}
	tables := []api.Table{{Key: a[:1], Indexes: []api.Index{{Places: a[1:]}}}}
	l := stretches(reflect.ValueOf(tables))
	if len(l) != 4 || l[1].low >= l[3].high || l[3].low >= l[1].high {
		t.Errorf("the stretches of %v: %v", tables, l)
	}
	kept := wholeOf(tables)
	if tables[0].Key[:2][1] = 7; wholeOf(tables) == kept {
		t.Errorf("%s is as it was", kept)
	}
	if !same([]api.Table{{Key: []int{}}}, []api.Table{{}}) || same([]api.Table{{Key: []int{0}}}, []api.Table{{}}) {
		t.Error("same tells other things")
	}
}
