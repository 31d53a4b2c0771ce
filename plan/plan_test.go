package plan

import (
	"bytes"
	"cmp"
	"encoding/binary"
	"fmt"
	"math"
	"reflect"
	"slices"
	"strings"
	"testing"

	"commonhold/api"
	"commonhold/catalog"
)

var null = api.Value{}

func truth(i int) api.Value { return api.Value{Kind: api.Truth, Int: i} }

func whole(i int) api.Value { return api.Value{Kind: api.Int, Int: i} }

func words(s string) api.Value { return api.Value{Kind: api.Text, Text: s} }

// zeros: the text that makes the longest key.
var zeros = strings.Repeat("\x00", api.MaxText)

func place(i int) api.Expr { return api.Expr{Op: api.Place, Place: i} }

func constant(v api.Value) api.Expr { return api.Expr{Op: api.Const, Value: v} }

func of(op int, subs ...api.Expr) api.Expr { return api.Expr{Op: op, Subs: subs} }

func all(l ...api.Expr) []api.Expr { return l }

// limiting: the column in a place is limited by a value, the Place first.
func limiting(at, op int, v api.Value) api.Expr { return of(op, place(at), constant(v)) }

// turned: the same, the Const first.
func turned(at, op int, v api.Value) api.Expr {
	other := map[int]int{api.Equal: api.Equal, api.Less: api.More, api.More: api.Less, api.Most: api.Least, api.Least: api.Most}
	return of(other[op], constant(v), place(at))
}

func equal(at int, v api.Value) api.Expr { return limiting(at, api.Equal, v) }

// twofold: an expression that is not simple, though its parts are.
func twofold() api.Expr { return of(api.And, equal(0, whole(1)), equal(0, whole(1))) }

// comparisons: those that limit.
func comparisons() []int { return []int{api.Equal, api.Less, api.Most, api.More, api.Least} }

func column(name string, kind int, notNull bool) api.Column {
	return api.Column{Name: name, Type: kind, NotNull: notNull}
}

// several: a catalog of three tables, with no, one and two indexes, and keys of one, two and three places, not in the columns' order.
func several() []api.Table {
	return []api.Table{
		{Name: "none", Columns: []api.Column{column("a", api.Int, true), column("b", api.Text, false)}, Key: []int{0}},
		{Name: "one", Columns: []api.Column{column("a", api.Text, false), column("b", api.Truth, true), column("c", api.Int, true)}, Key: []int{2, 1}, Indexes: []api.Index{{Name: "i", Places: []int{0}}}},
		{Name: "two", Columns: []api.Column{column("a", api.Int, true), column("b", api.Text, true), column("c", api.Truth, true), column("d", api.Int, false), column("e", api.Int, false)}, Key: []int{1, 2, 0}, Indexes: []api.Index{{Name: "i", Places: []int{3, 0}}, {Name: "j", Places: []int{2, 3, 4}}}},
	}
}

// greatest: a catalog that is as great as may be.
func greatest() []api.Table {
	var l []api.Table
	for _, name := range []string{"a", "b", "c", "d"} {
		l = append(l, api.Table{
			Name: name,
			Columns: []api.Column{
				column("a", api.Text, false), column("b", api.Text, true), column("c", api.Text, true),
				column("d", api.Text, false), column("e", api.Text, false), column("f", api.Text, true),
			},
			Key:     []int{5, 1, 2},
			Indexes: []api.Index{{Name: "i", Places: []int{0, 4, 5}}, {Name: "j", Places: []int{3, 2, 1}}},
		})
	}
	return l
}

// misfits: catalogs that do not fit, each for another cause.
func misfits() [][]api.Table {
	changes := []func(l []api.Table) []api.Table{
		func(l []api.Table) []api.Table { return append(l, l[0]) },
		func(l []api.Table) []api.Table { l[0].Name = "table"; return l },
		func(l []api.Table) []api.Table { l[0].Columns, l[0].Key = nil, nil; return l },
		func(l []api.Table) []api.Table { l[2].Columns[3].Type = api.Null; return l },
		func(l []api.Table) []api.Table { l[0].Columns[0].NotNull = false; return l },
		func(l []api.Table) []api.Table { l[1].Key = nil; return l },
		func(l []api.Table) []api.Table { l[1].Key[0] = 3; return l },
		func(l []api.Table) []api.Table { l[1].Key[0] = -1; return l },
		func(l []api.Table) []api.Table { l[2].Key[0] = 0; return l },
		func(l []api.Table) []api.Table {
			l[2].Indexes = append(l[2].Indexes, api.Index{Name: "k", Places: []int{0}})
			return l
		},
		func(l []api.Table) []api.Table { l[2].Indexes[1].Name = "i"; return l },
		func(l []api.Table) []api.Table { l[2].Indexes[1].Places[2] = 5; return l },
		func(l []api.Table) []api.Table { l[1].Indexes[0].Places = nil; return l },
		func(l []api.Table) []api.Table { return append(greatest(), several()[0]) },
	}
	var l [][]api.Table
	for _, change := range changes {
		l = append(l, change(several()))
	}
	return l
}

func TestCatalogs(t *testing.T) {
	for _, l := range [][]api.Table{several(), greatest()} {
		if !catalog.Fits(l) {
			t.Errorf("%s does not fit", brief(l))
		}
	}
	for i, l := range misfits() {
		if catalog.Fits(l) {
			t.Errorf("misfit %d fits", i)
		}
	}
}

// strangeTables: numbers that are no tables of so many.
func strangeTables(n int) []int {
	return []int{-1, n, n + 1, -2, 1 << 32, -1 << 32, math.MaxInt64, math.MinInt64}
}

// ofKind: some values of a kind, in their order, the least and the greatest among them.
func ofKind(kind int) []api.Value {
	switch kind {
	case api.Truth:
		return []api.Value{truth(0), truth(1)}
	case api.Int:
		return []api.Value{whole(math.MinInt64), whole(-256), whole(-1), whole(0), whole(1), whole(255), whole(256), whole(math.MaxInt64)}
	}
	return []api.Value{words(""), words("\x00"), words(zeros), words("\x01"), words("a"), words("a\x00"), words("a\x00b"), words("ab"), words("\u00e4"), words("\U0010ffff"), words(strings.Repeat("\U0010ffff", api.MaxText/4))}
}

// keyed: the key of values, made by other means than package key.
func keyed(l ...api.Value) []byte {
	var b []byte
	for _, v := range l {
		switch v.Kind {
		case api.Null:
			b = append(b, 1)
		case api.Truth:
			b = append(b, byte(2+v.Int))
		case api.Int:
			b = binary.BigEndian.AppendUint64(append(b, 4), uint64(v.Int)^1<<63)
		case api.Text:
			b = append(append(b, 5), strings.ReplaceAll(v.Text, "\x00", "\x00\xff")+"\x00\x01"...)
		}
	}
	return b
}

// behind: the least bytes behind all that begin with these, by other means than package key.
func behind(b []byte) []byte {
	last := len(b) - 1
	if b[last] == 255 {
		return behind(b[:last])
	}
	return append(bytes.Clone(b[:last]), b[last]+1)
}

// keyOf: the key of a table and an index, and of values.
func keyOf(table, index int, l ...api.Value) []byte {
	return keyed(slices.Concat([]api.Value{whole(table), whole(index)}, l)...)
}

// between: an access, from bytes to bytes.
func between(index int, low, high []byte) api.Access {
	return api.Access{Index: index, Range: api.Range{Low: low, High: high}}
}

// within: the access to all that begins with values of an index.
func within(table, index int, l ...api.Value) api.Access {
	low := keyOf(table, index, l...)
	return between(index, low, behind(low))
}

func alike(a, b api.Access) bool {
	return a.Index == b.Index && bytes.Equal(a.Range.Low, b.Range.Low) && bytes.Equal(a.Range.High, b.Range.High)
}

// checkLead: what Lead answers, with spare room and without; what was handed in stays.
func checkLead(t *testing.T, asked []api.Expr, want int) {
	t.Helper()
	for _, x := range [][]api.Expr{asked, roomyExprs(asked)} {
		kept := toldOf(x)
		if got := Lead(x); got != want {
			t.Errorf("Lead(%s): %d, want %d", brief(asked), got, want)
		}
		if toldOf(x) != kept {
			t.Errorf("Lead(%s) changes what it is given", brief(asked))
		}
	}
}

// checkChoose: what Choose answers, with spare room and without; what was handed in stays, and nothing of it is shared.
func checkChoose(t *testing.T, l []api.Table, table int, asked []api.Expr, want api.Access, code api.Errno) {
	t.Helper()
	for _, x := range [][]api.Table{l, roomyTables(l)} {
		for _, y := range [][]api.Expr{asked, roomyExprs(asked)} {
			kept := toldOf(x, y)
			got, e := Choose(x, table, y)
			if e != code || !alike(got, want) {
				t.Errorf("Choose(%s, %d, %s): %v, %d; want %v, %d", brief(l), table, brief(asked), got, e, want, code)
			}
			if toldOf(x, y) != kept {
				t.Errorf("Choose(%s, %d, %s) changes what it is given", brief(l), table, brief(asked))
			}
			again, _ := Choose(x, table, y)
			if sharing(got, x, y, again) {
				t.Errorf("Choose(%s, %d, %s): %v shares memory", brief(l), table, brief(asked), got)
			}
		}
	}
}

// brief: what is told of something, as a text that is not too long.
func brief(x any) string {
	text := fmt.Sprintf("%+v", x)
	if len(text) > 400 {
		return text[:400] + ".."
	}
	return text
}

// roomy: a copy of a list, with spare room behind it in which something stands.
func roomy[T any](l []T, spare T) []T {
	kept := make([]T, len(l)+3)
	copy(kept, l)
	for i := len(l); i < len(kept); i++ {
		kept[i] = spare
	}
	return kept[:len(l)]
}

// roomyTables: a copy whose lists share nothing, and have spare room. What stands there would fit, too.
func roomyTables(l []api.Table) []api.Table {
	l = roomy(l, several()[0])
	for i, t := range l {
		t.Columns, t.Key, t.Indexes = roomy(t.Columns, column("spare", api.Int, true)), roomy(t.Key, 0), roomy(t.Indexes, api.Index{Name: "spare", Places: []int{0}})
		for j, x := range t.Indexes {
			t.Indexes[j].Places = roomy(x.Places, 0)
		}
		l[i] = t
	}
	return l
}

// roomyExprs: a copy whose lists share nothing, and have spare room. What stands there would be simple, or a part of what is.
func roomyExprs(l []api.Expr) []api.Expr {
	l = roomy(l, equal(0, whole(9)))
	for i := range l {
		l[i].Subs = roomySubs(l[i].Subs)
	}
	return l
}

func roomySubs(l []api.Expr) []api.Expr {
	l = roomy(l, constant(whole(9)))
	for i, e := range l {
		if len(e.Subs) > 0 {
			l[i].Subs = roomySubs(e.Subs)
		} else {
			l[i].Subs = roomy(e.Subs, place(0))
		}
	}
	return l
}

// told: all that can be reached from something, the spare room of its lists, too, as a text.
func told(v reflect.Value) string {
	var b strings.Builder
	switch v.Kind() {
	case reflect.Slice:
		for i := range v.Cap() {
			fmt.Fprintf(&b, "%d: %s, ", i, told(v.Slice(0, v.Cap()).Index(i)))
		}
		return fmt.Sprintf("[%d of %s]", v.Len(), b.String())
	case reflect.Struct:
		for i := range v.NumField() {
			fmt.Fprintf(&b, "%s, ", told(v.Field(i)))
		}
		return "{" + b.String() + "}"
	}
	return fmt.Sprintf("%#v", v)
}

// toldOf: the same of several things.
func toldOf(l ...any) string {
	var b strings.Builder
	for _, x := range l {
		b.WriteString(told(reflect.ValueOf(x)) + "\n")
	}
	return b.String()
}

// stretch: where the memory of a list begins and ends, its spare room counted.
type stretch struct{ low, high uintptr }

// stretches: those of all lists in something, by where they begin.
func stretches(x any) []stretch {
	var l []stretch
	var note func(v reflect.Value)
	note = func(v reflect.Value) {
		switch v.Kind() {
		case reflect.Slice:
			if v.Cap() > 0 {
				l = append(l, stretch{v.Pointer(), v.Pointer() + uintptr(v.Cap())*v.Type().Elem().Size()})
			}
			for i := range v.Len() {
				note(v.Index(i))
			}
		case reflect.Struct:
			for i := range v.NumField() {
				note(v.Field(i))
			}
		}
	}
	note(reflect.ValueOf(x))
	slices.SortFunc(l, func(a, b stretch) int { return cmp.Compare(a.low, b.low) })
	return l
}

// sharing: whether two lists of an answer have memory in common, or one of them with a list of something else.
func sharing(answer any, others ...any) bool {
	mine := stretches(answer)
	for i, s := range mine {
		if i > 0 && mine[i-1].high > s.low {
			return true
		}
		for _, x := range others {
			if slices.ContainsFunc(stretches(x), func(o stretch) bool { return s.low < o.high && o.low < s.high }) {
				return true
			}
		}
	}
	return false
}

// The checks themselves find what they are there for.
func TestChecksFindSharing(t *testing.T) {
	b := []byte("abc")
	for i, x := range []any{between(0, b, b), between(1, b[:1], b[1:]), between(2, b[:0], b[2:])} {
		if !sharing(x) || !sharing(between(0, b[1:], nil), x) {
			t.Errorf("example %d shares memory", i)
		}
	}
	if sharing(between(0, b[:1:1], b[1:])) || sharing(between(0, b[:1:1], nil), between(0, nil, b[1:]), several(), all(twofold())) {
		t.Error("sharing tells other things")
	}
	l, e := roomyTables(several()), roomyExprs(all(twofold(), equal(1, whole(2))))
	for i, change := range []func(){
		func() { l[:4][3].Name = "x" }, func() { l[0].Key[:2][1]++ }, func() { l[2].Indexes[1].Places[0]++ }, func() { l[1].Columns[:4][3].NotNull = false }, func() { l[0].Indexes[:1][0].Name = "x" },
		func() { e[0].Op++ }, func() { e[:4][3].Place++ }, func() { e[1].Subs[0].Place++ }, func() { e[1].Subs[:3][2].Op++ }, func() { e[1].Subs[0].Subs[:2][1].Op++ }, func() { e[0].Subs[1].Subs[0].Name = "x" },
	} {
		kept := toldOf(l, e)
		if change(); toldOf(l, e) == kept {
			t.Errorf("change %d: all is as it was", i)
		}
	}
}

func TestChecksFindOthers(t *testing.T) {
	a, b := []byte("a"), []byte("b")
	l := []api.Access{{}, between(1, nil, nil), between(0, a, nil), between(0, nil, a), between(0, a, b), between(0, b, a), between(1, a, b)}
	for i, x := range l {
		for j, y := range l {
			if alike(x, y) != (i == j) {
				t.Errorf("%v and %v", x, y)
			}
		}
	}
	if !bytes.Equal(keyed(null, truth(1), whole(-1), words("a\x00")), []byte("\x01\x03\x04\x7f\xff\xff\xff\xff\xff\xff\xff\x05a\x00\xff\x00\x01")) {
		t.Error("keyed tells another key")
	}
	if !bytes.Equal(behind([]byte{4, 255, 254, 255, 255}), []byte{4, 255, 255}) || !bytes.Equal(behind(a), b) {
		t.Error("behind tells other bytes")
	}
}
