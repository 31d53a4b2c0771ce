package row

import (
	"bytes"
	"cmp"
	"encoding/binary"
	"fmt"
	"math"
	"math/rand"
	"reflect"
	"slices"
	"strings"
	"testing"

	"commonhold/api"
	"commonhold/catalog"
	"commonhold/value"
)

var null = api.Value{}

func truth(i int) api.Value { return api.Value{Kind: api.Truth, Int: i} }

func whole(i int) api.Value { return api.Value{Kind: api.Int, Int: i} }

func words(s string) api.Value { return api.Value{Kind: api.Text, Text: s} }

func rowWith(l ...api.Value) []api.Value { return l }

// zeros: the text that makes the longest key.
var zeros = strings.Repeat("\x00", api.MaxText)

// column: a Type, and whether it must not be Null.
func column(name string, kind int, notNull bool) api.Column {
	return api.Column{Name: name, Type: kind, NotNull: notNull}
}

// several: a catalog of three tables, with no, one and two indexes, and keys of one, two and three places, not in the columns' order.
func several() []api.Table {
	return []api.Table{
		{Name: "none", Columns: []api.Column{column("a", api.Int, true), column("b", api.Text, false)}, Key: []int{0}},
		{Name: "one", Columns: []api.Column{column("a", api.Text, false), column("b", api.Truth, true), column("c", api.Int, true)}, Key: []int{2, 1}, Indexes: []api.Index{{Name: "i", Places: []int{0}}}},
		{Name: "two", Columns: []api.Column{column("a", api.Int, true), column("b", api.Text, true), column("c", api.Truth, true), column("d", api.Int, false)}, Key: []int{1, 2, 0}, Indexes: []api.Index{{Name: "i", Places: []int{3, 0}}, {Name: "j", Places: []int{2, 3, 1}}}},
	}
}

// severalRow: one of each table of several.
func severalRow(table int) []api.Value {
	return [][]api.Value{
		rowWith(whole(5), words("x")),
		rowWith(words("y"), truth(1), whole(-2)),
		rowWith(whole(3), words("z"), truth(0), whole(4)),
	}[table]
}

// greatest: a catalog that is as great as may be.
func greatest() []api.Table {
	var l []api.Table
	for _, name := range []string{"a", "b", "c", "d"} {
		l = append(l, api.Table{
			Name: name,
			Columns: []api.Column{
				column("a", api.Text, false), column("b", api.Text, true), column("c", api.Text, true),
				column("d", api.Text, false), column("e", api.Text, false), column("f", api.Text, true),
			},
			Key:     []int{5, 1, 2},
			Indexes: []api.Index{{Name: "i", Places: []int{0, 4, 5}}, {Name: "j", Places: []int{3, 2, 1}}},
		})
	}
	return l
}

// single: a catalog of one table with one column, that may not be Null.
func single(kind int) []api.Table {
	return []api.Table{{Name: "t", Columns: []api.Column{column("a", kind, true)}, Key: []int{0}}}
}

// misfits: catalogs that do not fit, each for another cause.
func misfits() [][]api.Table {
	changes := []func(l []api.Table) []api.Table{
		func(l []api.Table) []api.Table { return append(l, l[0]) },
		func(l []api.Table) []api.Table { l[0].Name = "table"; return l },
		func(l []api.Table) []api.Table { l[0].Columns, l[0].Key = nil, nil; return l },
		func(l []api.Table) []api.Table { l[2].Columns[3].Type = api.Null; return l },
		func(l []api.Table) []api.Table { l[0].Columns[0].NotNull = false; return l },
		func(l []api.Table) []api.Table { l[1].Key = nil; return l },
		func(l []api.Table) []api.Table { l[1].Key[0] = 3; return l },
		func(l []api.Table) []api.Table { l[1].Key[0] = -1; return l },
		func(l []api.Table) []api.Table { l[2].Key[0] = 0; return l },
		func(l []api.Table) []api.Table {
			l[2].Indexes = append(l[2].Indexes, api.Index{Name: "k", Places: []int{0}})
			return l
		},
		func(l []api.Table) []api.Table { l[2].Indexes[1].Name = "i"; return l },
		func(l []api.Table) []api.Table { l[2].Indexes[1].Places[2] = 4; return l },
		func(l []api.Table) []api.Table { l[1].Indexes[0].Places = nil; return l },
		func(l []api.Table) []api.Table { return append(greatest(), single(api.Int)...) },
	}
	var l [][]api.Table
	for _, change := range changes {
		l = append(l, change(several()))
	}
	return l
}

// strangeTables: numbers that are no tables of so many.
func strangeTables(n int) []int {
	return []int{-1, n, n + 1, -2, 1 << 32, -1 << 32, math.MaxInt64, math.MinInt64}
}

func TestCatalogs(t *testing.T) {
	for _, l := range [][]api.Table{several(), greatest(), single(api.Truth), single(api.Int), single(api.Text)} {
		if !catalog.Fits(l) {
			t.Errorf("%s does not fit", brief(l))
		}
	}
	for i, l := range misfits() {
		if catalog.Fits(l) {
			t.Errorf("misfit %d fits", i)
		}
	}
}

// keyed: the key of values, made by other means than package key.
func keyed(l ...api.Value) []byte {
	var b []byte
	for _, v := range l {
		switch v.Kind {
		case api.Null:
			b = append(b, 1)
		case api.Truth:
			b = append(b, byte(2+v.Int))
		case api.Int:
			b = binary.BigEndian.AppendUint64(append(b, 4), uint64(v.Int)^1<<63)
		case api.Text:
			b = append(append(b, 5), strings.ReplaceAll(v.Text, "\x00", "\x00\xff")+"\x00\x01"...)
		}
	}
	return b
}

// picked: the values of a row in places.
func picked(row []api.Value, places []int) []api.Value {
	var l []api.Value
	for _, place := range places {
		l = append(l, row[place])
	}
	return l
}

// wanted: what Entries is to answer, of a catalog that fits and a table of it.
func wanted(l []api.Table, table int, row []api.Value) ([]api.Entry, api.Errno) {
	t := l[table]
	if len(row) != len(t.Columns) {
		return nil, api.ErrSize
	}
	for i, v := range row {
		if code := value.Check(v); code != api.OK {
			return nil, code
		}
		if v.Kind == t.Columns[i].Type || v.Kind == api.Null && !t.Columns[i].NotNull {
			continue
		}
		if v.Kind == api.Null {
			return nil, api.ErrNull
		}
		return nil, api.ErrType
	}
	key := picked(row, t.Key)
	made := []api.Entry{{Key: keyed(slices.Concat(rowWith(whole(table), whole(0)), key)...), Value: keyed(row...)}}
	for i, x := range t.Indexes {
		made = append(made, api.Entry{Key: keyed(slices.Concat(rowWith(whole(table), whole(i+1)), picked(row, x.Places), key)...)})
	}
	return made, api.OK
}

// wantedOf: the entries of a row that may be.
func wantedOf(t *testing.T, l []api.Table, table int, row []api.Value) []api.Entry {
	t.Helper()
	made, code := wanted(l, table, row)
	if code != api.OK {
		t.Fatalf("%s is no row of table %d: %d", brief(row), table, code)
	}
	return made
}

// placesAmong: some places, in whatever order.
func placesAmong(random *rand.Rand, columns int) []int {
	return random.Perm(columns)[:1+random.Intn(min(columns, api.MaxKeys))]
}

// randomCatalog: one that fits, of 1 to MaxTables tables.
func randomCatalog(random *rand.Rand) []api.Table {
	var l []api.Table
	for i := range 1 + random.Intn(api.MaxTables) {
		t := api.Table{Name: fmt.Sprint("t", i)}
		for j := range 1 + random.Intn(api.MaxCols) {
			t.Columns = append(t.Columns, column(fmt.Sprint("c", j), 1+random.Intn(3), random.Intn(3) == 0))
		}
		t.Key = placesAmong(random, len(t.Columns))
		for _, place := range t.Key {
			t.Columns[place].NotNull = true
		}
		for j := range random.Intn(api.MaxIndex + 1) {
			t.Indexes = append(t.Indexes, api.Index{Name: fmt.Sprint("i", j), Places: placesAmong(random, len(t.Columns))})
		}
		l = append(l, t)
	}
	return l
}

// ofKind: some values of a kind, the least and the greatest among them.
func ofKind(kind int) []api.Value {
	switch kind {
	case api.Truth:
		return rowWith(truth(0), truth(1))
	case api.Int:
		return rowWith(whole(math.MinInt64), whole(-256), whole(-1), whole(0), whole(1), whole(255), whole(256), whole(math.MaxInt64))
	case api.Text:
		return rowWith(words(""), words("\x00"), words(zeros), words("\x01"), words("a"), words("a\x00"), words("a\x00b"), words("ab"), words("\u00e4"), words(strings.Repeat("\u00ff", api.MaxText/2)), words("\U0010ffff"))
	}
	return rowWith(null)
}

func oneOf[T any](random *rand.Rand, l []T) T { return l[random.Intn(len(l))] }

// randomRow: a row that may be.
func randomRow(random *rand.Rand, columns []api.Column) []api.Value {
	var row []api.Value
	for _, c := range columns {
		if !c.NotNull && random.Intn(4) == 0 {
			row = append(row, null)
		} else {
			row = append(row, oneOf(random, ofKind(c.Type)))
		}
	}
	return row
}

// brief: what is told of something, as a text that is not too long.
func brief(x any) string {
	text := fmt.Sprintf("%+v", x)
	if len(text) > 300 {
		return text[:300] + ".."
	}
	return text
}

// A list without elements may be nil or not.
func alike(a, b []api.Entry) bool {
	return slices.EqualFunc(a, b, func(x, y api.Entry) bool { return string(x.Key) == string(y.Key) && string(x.Value) == string(y.Value) })
}

// roomy: a copy of a list, with spare room behind it in which something stands.
func roomy[T any](l []T, spare T) []T {
	kept := make([]T, len(l)+3)
	copy(kept, l)
	for i := len(l); i < len(kept); i++ {
		kept[i] = spare
	}
	return kept[:len(l)]
}

// roomyTables: a copy whose lists share nothing, and have spare room. What stands there would fit, too.
func roomyTables(l []api.Table) []api.Table {
	l = roomy(l, single(api.Int)[0])
	for i, t := range l {
		t.Columns, t.Key, t.Indexes = roomy(t.Columns, column("spare", api.Int, true)), roomy(t.Key, 0), roomy(t.Indexes, api.Index{Name: "spare", Places: []int{0}})
		for j, x := range t.Indexes {
			t.Indexes[j].Places = roomy(x.Places, 0)
		}
		l[i] = t
	}
	return l
}

func roomyEntry(e api.Entry) api.Entry {
	return api.Entry{Key: roomy(e.Key, 1), Value: roomy(e.Value, 1)}
}

func roomyEntries(l []api.Entry) []api.Entry {
	l = roomy(l, api.Entry{Key: []byte("spare"), Value: []byte("room")})
	for i, e := range l {
		l[i] = roomyEntry(e)
	}
	return l
}

// told: all that can be reached from something, the spare room of its lists, too, as a text.
func told(v reflect.Value) string {
	var b strings.Builder
	switch v.Kind() {
	case reflect.Slice:
		if v.Type().Elem().Kind() == reflect.Uint8 {
			return fmt.Sprintf("[%d of %x]", v.Len(), v.Slice(0, v.Cap()).Bytes())
		}
		for i := range v.Cap() {
			fmt.Fprintf(&b, "%d: %s, ", i, told(v.Slice(0, v.Cap()).Index(i)))
		}
		return fmt.Sprintf("[%d of %s]", v.Len(), b.String())
	case reflect.Struct:
		for i := range v.NumField() {
			fmt.Fprintf(&b, "%s, ", told(v.Field(i)))
		}
		return "{" + b.String() + "}"
	}
	return fmt.Sprintf("%#v", v)
}

// toldOf: the same of several things.
func toldOf(l ...any) string {
	var b strings.Builder
	for _, x := range l {
		b.WriteString(told(reflect.ValueOf(x)) + "\n")
	}
	return b.String()
}

// stretch: where the memory of a list begins and ends, its spare room counted.
type stretch struct{ low, high uintptr }

// stretches: those of all lists in something, by where they begin.
func stretches(x any) []stretch {
	var l []stretch
	var note func(v reflect.Value)
	note = func(v reflect.Value) {
		switch v.Kind() {
		case reflect.Slice:
			if v.Cap() > 0 {
				l = append(l, stretch{v.Pointer(), v.Pointer() + uintptr(v.Cap())*v.Type().Elem().Size()})
			}
			if v.Type().Elem().Kind() == reflect.Uint8 {
				return
			}
			for i := range v.Len() {
				note(v.Index(i))
			}
		case reflect.Struct:
			for i := range v.NumField() {
				note(v.Field(i))
			}
		}
	}
	note(reflect.ValueOf(x))
	slices.SortFunc(l, func(a, b stretch) int { return cmp.Compare(a.low, b.low) })
	return l
}

// sharing: whether two lists of an answer have memory in common, or one of them with a list of something else.
func sharing(answer any, others ...any) bool {
	mine := stretches(answer)
	for i, s := range mine {
		if i > 0 && mine[i-1].high > s.low {
			return true
		}
		for _, x := range others {
			if slices.ContainsFunc(stretches(x), func(o stretch) bool { return s.low < o.high && o.low < s.high }) {
				return true
			}
		}
	}
	return false
}

// The checks themselves find what they are there for.
func TestChecksFindSharing(t *testing.T) {
	b := []byte("abc")
	for i, x := range []any{
		api.Range{Low: b, High: b}, api.Range{Low: b[:1], High: b[1:]}, api.Range{Low: b[:0], High: b[2:]}, api.Entry{Key: b, Value: b}, []api.Entry{{Key: b}, {Value: b[1:]}},
	} {
		if !sharing(x) || !sharing(api.Entry{Key: b[1:]}, x) {
			t.Errorf("example %d shares memory", i)
		}
	}
	if sharing([]api.Entry{{Key: b[:1:1], Value: b[1:]}, {}, {Key: []byte{}}}) || sharing(api.Entry{Key: b[:1:1]}, api.Entry{Key: b[1:]}, several()) {
		t.Error("sharing tells other things")
	}
	row := severalRow(0)
	if !sharing(row[:1], row[1:]) || sharing(row[:1:1], row[1:]) {
		t.Error("sharing tells other things of rows")
	}
	l, e, row := roomyTables(several()), roomyEntries([]api.Entry{{Key: b, Value: b}}), roomy(row, null)
	for i, change := range []func(){
		func() { l[:4][3].Name = "x" }, func() { l[0].Key[:2][1]++ }, func() { l[2].Indexes[1].Places[0]++ }, func() { l[1].Columns[:4][3].NotNull = false }, func() { l[0].Indexes[:1][0].Name = "x" },
		func() { e[0].Key[0]++ }, func() { e[0].Value[:4][3]++ }, func() { e[:2][1].Key = nil }, func() { row[0].Int++ }, func() { row[:3][2].Text = "x" },
	} {
		kept := toldOf(l, e, row)
		if change(); toldOf(l, e, row) == kept {
			t.Errorf("change %d: all is as it was", i)
		}
	}
}

func TestChecksFindOthers(t *testing.T) {
	if !alike(nil, []api.Entry{}) || !alike([]api.Entry{{Key: []byte{}}}, []api.Entry{{Value: []byte{}}}) {
		t.Error("a list without elements may be nil or not")
	}
	a, b := []byte("a"), []byte("b")
	l := [][]api.Entry{nil, {{}}, {{Key: a}}, {{Key: b}}, {{Value: a}}, {{Value: b}}, {{Key: a, Value: a}}, {{Key: a}, {Key: b}}, {{Key: b}, {Key: a}}}
	for i, x := range l {
		for j, y := range l {
			if alike(x, y) != (i == j) {
				t.Errorf("%s and %s", brief(x), brief(y))
			}
		}
	}
	if !bytes.Equal(keyed(null, truth(1), whole(-1), words("a\x00")), []byte("\x01\x03\x04\x7f\xff\xff\xff\xff\xff\xff\xff\x05a\x00\xff\x00\x01")) {
		t.Error("keyed tells another key")
	}
}
