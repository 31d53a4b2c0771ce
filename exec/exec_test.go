package exec

import (
	"bytes"
	"cmp"
	"encoding/binary"
	"fmt"
	"math"
	"reflect"
	"slices"
	"strings"
	"testing"

	"commonhold/api"
	"commonhold/catalog"
	"commonhold/lex"
	"commonhold/parse"
	"commonhold/row"
	"commonhold/shape"
)

var null = api.Value{}

func truth(i int) api.Value { return api.Value{Kind: api.Truth, Int: i} }

func whole(i int) api.Value { return api.Value{Kind: api.Int, Int: i} }

func words(s string) api.Value { return api.Value{Kind: api.Text, Text: s} }

func rowWith(l ...api.Value) []api.Value { return l }

func rowsOf(l ...[]api.Value) [][]api.Value { return l }

// numbers: rows of one number.
func numbers(l ...int) [][]api.Value {
	var rows [][]api.Value
	for _, n := range l {
		rows = append(rows, rowWith(whole(n)))
	}
	return rows
}

// The tables of the schema.
const (
	tableT = iota
	tableU
	tableW
)

// tables: a catalog with tables of two, no and one index.
func tables(t *testing.T) []api.Table {
	t.Helper()
	l, at, code := catalog.Load([]string{
		"create table t ( a int , b text , c truth , d int , primary key ( a ) )",
		"create table u ( x int , y text , z int , primary key ( y , x ) )",
		"create table w ( k text , g text not null , h text , n int , primary key ( k ) )",
		"create index td on t ( d )",
		"create index tb on t ( b , d )",
		"create index wg on w ( g )",
	})
	if code != api.OK {
		t.Fatalf("source %d of the schema: %d", at, code)
	}
	return l
}

// bare: a copy of a catalog, without indexes.
func bare(l []api.Table) []api.Table {
	l = slices.Clone(l)
	for i := range l {
		l[i].Indexes = nil
	}
	return l
}

// stock: rows, by their tables.
type stock [3][][]api.Value

// some: rows of each table, in the order of their keys.
func some() stock {
	return stock{
		rowsOf(
			rowWith(whole(1), words("a"), truth(1), whole(10)),
			rowWith(whole(2), words("b"), null, whole(20)),
			rowWith(whole(3), words("a"), truth(0), null),
			rowWith(whole(4), null, truth(1), whole(10)),
			rowWith(whole(7), words("b"), truth(0), whole(-5)),
		),
		rowsOf(
			rowWith(whole(10), words("k"), whole(7)),
			rowWith(whole(-1), words("z"), null),
			rowWith(whole(10), words("z"), whole(0)),
			rowWith(whole(20), words("z"), whole(5)),
		),
		rowsOf(
			rowWith(words("p"), words("on"), words("x"), whole(1)),
			rowWith(words("q"), words("on"), null, whole(2)),
			rowWith(words("r"), words("off"), words(""), whole(math.MaxInt64)),
		),
	}
}

// statement: of a source.
func statement(t *testing.T, source string) api.Statement {
	t.Helper()
	l, at, code := lex.Cut(source)
	if code != api.OK {
		t.Fatalf("%q is not cut at %d: %d", source, at, code)
	}
	s, at, code := parse.Parse(l)
	if code != api.OK {
		t.Fatalf("%q is not read at %d: %d", source, at, code)
	}
	return s
}

// sourceOf: a source of a statement; of one that may not be the statement itself.
func sourceOf(s api.Statement) string {
	l, code := shape.Show(s)
	if code != api.OK {
		return brief(s)
	}
	source, _ := lex.Join(l)
	return source
}

// keyed: the key of values, made by other means than package key.
func keyed(l ...api.Value) []byte {
	var b []byte
	for _, v := range l {
		switch v.Kind {
		case api.Null:
			b = append(b, 1)
		case api.Truth:
			b = append(b, byte(2+v.Int))
		case api.Int:
			b = binary.BigEndian.AppendUint64(append(b, 4), uint64(v.Int)^1<<63)
		case api.Text:
			b = append(append(b, 5), strings.ReplaceAll(v.Text, "\x00", "\x00\xff")+"\x00\x01"...)
		}
	}
	return b
}

// keyOf: the key of a table and an index, and of values.
func keyOf(table, index int, l ...api.Value) []byte {
	return keyed(slices.Concat(rowWith(whole(table), whole(index)), l)...)
}

// behind: the least bytes behind all that begin with these.
func behind(b []byte) []byte {
	last := len(b) - 1
	if b[last] == 255 {
		return behind(b[:last])
	}
	return append(bytes.Clone(b[:last]), b[last]+1)
}

// span: all keys that begin with values of an index.
func span(table, index int, l ...api.Value) api.Range {
	low := keyOf(table, index, l...)
	return api.Range{Low: low, High: behind(low)}
}

// pointAt: the point of the first entry of a row with these values in its Key.
func pointAt(table int, l ...api.Value) api.Range {
	low := keyOf(table, 0, l...)
	return api.Range{Low: low, High: append(bytes.Clone(low), 0)}
}

func reads(l ...api.Range) []api.Range { return l }

// picked: the values of a row in places.
func picked(values []api.Value, places []int) []api.Value {
	var l []api.Value
	for _, place := range places {
		l = append(l, values[place])
	}
	return l
}

// entriesWanted: the entries of a row that may be.
func entriesWanted(l []api.Table, table int, values []api.Value) []api.Entry {
	key := picked(values, l[table].Key)
	made := []api.Entry{{Key: keyOf(table, 0, key...), Value: keyed(values...)}}
	for i, x := range l[table].Indexes {
		made = append(made, api.Entry{Key: keyOf(table, i+1, append(picked(values, x.Places), key...)...)})
	}
	return made
}

// puts: writes of entries.
func puts(l ...api.Entry) []api.Write {
	var w []api.Write
	for _, e := range l {
		w = append(w, api.Write{Key: e.Key, Value: e.Value})
	}
	return w
}

// drops: the same entries, Gone.
func drops(l ...api.Entry) []api.Write {
	var w []api.Write
	for _, e := range l {
		w = append(w, api.Write{Key: e.Key, Gone: true})
	}
	return w
}

// snapOf: the entries of all rows, by their keys.
func snapOf(l []api.Table, rows stock) []api.Entry {
	var snap []api.Entry
	for table, list := range rows {
		for _, values := range list {
			snap = append(snap, entriesWanted(l, table, values)...)
		}
	}
	slices.SortFunc(snap, func(a, b api.Entry) int { return bytes.Compare(a.Key, b.Key) })
	return snap
}

// A list without elements may be nil or not.
func alikeRanges(a, b []api.Range) bool {
	return slices.EqualFunc(a, b, func(x, y api.Range) bool { return bytes.Equal(x.Low, y.Low) && bytes.Equal(x.High, y.High) })
}

func alikeRows(a, b [][]api.Value) bool {
	return slices.EqualFunc(a, b, func(x, y []api.Value) bool { return slices.Equal(x, y) })
}

func alikeWrites(a, b []api.Write) bool {
	return slices.EqualFunc(a, b, func(x, y api.Write) bool {
		return bytes.Equal(x.Key, y.Key) && bytes.Equal(x.Value, y.Value) && x.Gone == y.Gone
	})
}

func alikeEntries(a, b []api.Entry) bool {
	return alikeWrites(puts(a...), puts(b...))
}

func alike(a, b api.Answer) bool {
	return a.Code == b.Code && a.Count == b.Count && alikeRows(a.Rows, b.Rows) && alikeRanges(a.Reads, b.Reads) && alikeWrites(a.Writes, b.Writes)
}

// checkRun: what Run answers, with spare room and without; what was handed in stays, and nothing is shared.
func checkRun(t *testing.T, l []api.Table, snap []api.Entry, s api.Statement, want api.Answer) {
	t.Helper()
	for range 2 {
		kept := toldOf(l, snap, s)
		got := Run(l, snap, s)
		if !alike(got, want) {
			t.Errorf("Run of %s: %s\nwant %s", sourceOf(s), brief(got), brief(want))
		}
		if toldOf(l, snap, s) != kept {
			t.Errorf("Run of %s changes what it is given", sourceOf(s))
		}
		if again := Run(l, snap, s); sharing(got, l, snap, s, again) {
			t.Errorf("Run of %s: %s shares memory", sourceOf(s), brief(got))
		}
		l, snap, s = roomyTables(l), roomyEntries(snap), roomyStatement(s)
	}
}

// check: what a source comes to on rows.
func check(t *testing.T, rows stock, source string, want api.Answer) {
	t.Helper()
	l := tables(t)
	checkRun(t, l, snapOf(l, rows), statement(t, source), want)
}

// refused: a Code, and what was read till then; nothing else.
func refused(t *testing.T, rows stock, source string, code api.Errno, read ...api.Range) {
	t.Helper()
	check(t, rows, source, api.Answer{Code: code, Reads: read})
}

// selected: the rows of a select, and what was read.
func selected(t *testing.T, rows stock, source string, want [][]api.Value, read ...api.Range) {
	t.Helper()
	check(t, rows, source, api.Answer{Rows: want, Count: len(want), Reads: read})
}

// brief: what is told of something, as a text that is not too long.
func brief(x any) string {
	text := fmt.Sprintf("%+v", x)
	if len(text) > 1200 {
		return text[:1200] + ".."
	}
	return text
}

// roomy: a copy of a list, with spare room behind it in which something stands.
func roomy[T any](l []T, spare T) []T {
	kept := make([]T, len(l)+3)
	copy(kept, l)
	for i := len(l); i < len(kept); i++ {
		kept[i] = spare
	}
	return kept[:len(l)]
}

// roomyTables: a copy whose lists share nothing, and have spare room. What stands there would fit, too.
func roomyTables(l []api.Table) []api.Table {
	column := api.Column{Name: "spare", Type: api.Int, NotNull: true}
	l = roomy(l, api.Table{Name: "spare", Columns: []api.Column{column}, Key: []int{0}})
	for i, x := range l {
		x.Columns, x.Key, x.Indexes = roomy(x.Columns, column), roomy(x.Key, 0), roomy(x.Indexes, api.Index{Name: "spare", Places: []int{0}})
		for j, y := range x.Indexes {
			x.Indexes[j].Places = roomy(y.Places, 0)
		}
		l[i] = x
	}
	return l
}

func roomyEntries(l []api.Entry) []api.Entry {
	l = roomy(l, api.Entry{Key: []byte("spare"), Value: []byte("room")})
	for i, e := range l {
		l[i] = api.Entry{Key: roomy(e.Key, 1), Value: roomy(e.Value, 1)}
	}
	return l
}

func roomyWrites(l []api.Write) []api.Write {
	l = roomy(l, api.Write{Key: []byte("spare"), Value: []byte("room")})
	for i, w := range l {
		l[i] = api.Write{Key: roomy(w.Key, 1), Value: roomy(w.Value, 1), Gone: w.Gone}
	}
	return l
}

func roomyExprs(l []api.Expr) []api.Expr {
	l = roomy(l, api.Expr{Op: api.Const, Value: whole(9)})
	for i, e := range l {
		l[i].Subs = roomyExprs(e.Subs)
	}
	return l
}

// roomyStatement: a copy whose lists share nothing, and have spare room.
func roomyStatement(s api.Statement) api.Statement {
	s.Columns, s.Names, s.Orders = roomy(s.Columns, api.Column{Name: "spare", Type: api.Int}), roomy(s.Names, "spare"), roomy(s.Orders, api.Order{Item: 1, Down: true})
	s.Values, s.Groups, s.Sets = roomyExprs(s.Values), roomyExprs(s.Groups), roomy(s.Sets, api.Set{Name: "d"})
	for i, x := range s.Sets {
		s.Sets[i].Expr.Subs = roomyExprs(x.Expr.Subs)
	}
	s.On.Subs, s.Where.Subs = roomyExprs(s.On.Subs), roomyExprs(s.Where.Subs)
	return s
}

// told: all that can be reached from something, the spare room of its lists, too, as a text. What lies too deep, as in parts that have themselves as parts, is left out.
func told(v reflect.Value, depth int) string {
	var b strings.Builder
	switch {
	case depth == 0:
		return ".."
	case v.Kind() == reflect.Slice && v.Type().Elem().Kind() == reflect.Uint8:
		return fmt.Sprintf("[%d of %x]", v.Len(), v.Slice(0, v.Cap()).Bytes())
	case v.Kind() == reflect.Slice:
		for i := range v.Cap() {
			fmt.Fprintf(&b, "%d: %s, ", i, told(v.Slice(0, v.Cap()).Index(i), depth-1))
		}
		return fmt.Sprintf("[%d of %s]", v.Len(), b.String())
	case v.Kind() == reflect.Struct:
		for i := range v.NumField() {
			fmt.Fprintf(&b, "%s, ", told(v.Field(i), depth-1))
		}
		return "{" + b.String() + "}"
	}
	return fmt.Sprintf("%#v", v)
}

// toldOf: the same of several things.
func toldOf(l ...any) string {
	var b strings.Builder
	for _, x := range l {
		b.WriteString(told(reflect.ValueOf(x), 40) + "\n")
	}
	return b.String()
}

// stretch: where the memory of a list begins and ends, its spare room counted.
type stretch struct{ low, high uintptr }

// stretches: those of all lists in something, by where they begin.
func stretches(x any) []stretch {
	var l []stretch
	var note func(v reflect.Value)
	note = func(v reflect.Value) {
		switch v.Kind() {
		case reflect.Slice:
			if v.Cap() > 0 {
				l = append(l, stretch{v.Pointer(), v.Pointer() + uintptr(v.Cap())*v.Type().Elem().Size()})
			}
			if v.Type().Elem().Kind() == reflect.Uint8 {
				return
			}
			for i := range v.Len() {
				note(v.Index(i))
			}
		case reflect.Struct:
			for i := range v.NumField() {
				note(v.Field(i))
			}
		}
	}
	note(reflect.ValueOf(x))
	slices.SortFunc(l, func(a, b stretch) int { return cmp.Compare(a.low, b.low) })
	return l
}

// sharing: whether two lists of an answer have memory in common, or one of them with a list of something else.
func sharing(answer any, others ...any) bool {
	mine := stretches(answer)
	for i := 1; i < len(mine); i++ {
		if mine[i-1].high > mine[i].low {
			return true
		}
	}
	for _, x := range others {
		for _, s := range stretches(x) {
			// Of the lists of the answer that begin ahead of its end the last one is the last to end, too.
			n, _ := slices.BinarySearchFunc(mine, s.high, func(m stretch, high uintptr) int { return cmp.Compare(m.low, high) })
			if n > 0 && mine[n-1].high > s.low {
				return true
			}
		}
	}
	return false
}

// The checks themselves find what they are there for.
func TestChecksFindSharing(t *testing.T) {
	b := []byte("abc")
	for i, x := range []api.Answer{
		{Reads: reads(api.Range{Low: b, High: b})}, {Reads: reads(api.Range{Low: b[:1], High: b[1:]})},
		{Writes: []api.Write{{Key: b, Value: b[2:]}}}, {Writes: []api.Write{{Key: b[:0]}, {Value: b[1:]}}}, {Reads: reads(api.Range{Low: b}), Writes: []api.Write{{Key: b}}},
	} {
		if !sharing(x) || !sharing(api.Answer{Reads: reads(api.Range{High: b[1:]})}, x) {
			t.Errorf("example %d shares memory", i)
		}
	}
	values := rowWith(whole(1), whole(2))
	if !sharing(api.Answer{Rows: rowsOf(values[:1], values[1:])}) || sharing(api.Answer{Rows: rowsOf(values[:1:1], values[1:])}, some()[0]) {
		t.Error("sharing tells other things of rows")
	}
	l, e, w, s := roomyTables(tables(t)), roomyEntries([]api.Entry{{Key: b, Value: b}}), roomyWrites([]api.Write{{Key: b}}), roomyStatement(statement(t, "update t set b = 'x' , d = a + 1 where a = 1"))
	for i, change := range []func(){
		func() { l[:4][3].Name = "x" }, func() { l[0].Key[:2][1]++ }, func() { l[0].Indexes[1].Places[0]++ }, func() { l[1].Columns[:4][3].NotNull = false },
		func() { e[0].Key[0]++ }, func() { e[0].Value[:4][3]++ }, func() { e[:2][1].Key = nil }, func() { w[:2][1].Gone = true }, func() { w[0].Key[:4][3]++ },
		func() { s.Sets[:3][2].Name = "x" }, func() { s.Sets[1].Expr.Subs[1].Value.Int++ }, func() { s.Where.Subs[:3][2].Op++ }, func() { s.Orders[:1][0].Item++ },
	} {
		kept := toldOf(l, e, w, s)
		if change(); toldOf(l, e, w, s) == kept {
			t.Errorf("change %d: all is as it was", i)
		}
	}
}

func TestChecksFindOthers(t *testing.T) {
	a, b := []byte("a"), []byte("b")
	l := []api.Answer{
		{}, {Code: api.ErrForm}, {Count: 1}, {Rows: rowsOf(nil)}, {Rows: numbers(1)}, {Rows: numbers(2)}, {Rows: numbers(1, 2)}, {Rows: numbers(2, 1)}, {Rows: rowsOf(rowWith(truth(1)))},
		{Reads: reads(api.Range{})}, {Reads: reads(api.Range{Low: a})}, {Reads: reads(api.Range{High: a})}, {Reads: reads(api.Range{Low: a}, api.Range{Low: b})}, {Reads: reads(api.Range{Low: b}, api.Range{Low: a})},
		{Writes: []api.Write{{}}}, {Writes: []api.Write{{Key: a}}}, {Writes: []api.Write{{Value: a}}}, {Writes: []api.Write{{Key: a, Gone: true}}}, {Writes: []api.Write{{Key: a}, {Key: b}}},
	}
	for i, x := range l {
		for j, y := range l {
			if alike(x, y) != (i == j) {
				t.Errorf("%s and %s", brief(x), brief(y))
			}
		}
	}
	if !alike(api.Answer{}, api.Answer{Rows: [][]api.Value{}, Reads: reads(), Writes: []api.Write{}}) {
		t.Error("a list without elements may be nil or not")
	}
	if !bytes.Equal(keyed(null, truth(1), whole(-1), words("a\x00")), []byte("\x01\x03\x04\x7f\xff\xff\xff\xff\xff\xff\xff\x05a\x00\xff\x00\x01")) {
		t.Error("keyed tells another key")
	}
	catalogs := [][]api.Table{tables(t), bare(tables(t))}
	for _, c := range catalogs {
		if !row.Fits(c, snapOf(c, some())) || row.Fits(c, snapOf(c, some())[1:]) != (len(c[0].Indexes) == 0) {
			t.Error("the rows do not fit")
		}
	}
}
