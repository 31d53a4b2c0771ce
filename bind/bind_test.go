package bind

import (
	"cmp"
	"fmt"
	"reflect"
	"slices"
	"strings"
	"testing"

	"commonhold/api"
	"commonhold/catalog"
	"commonhold/lex"
	"commonhold/parse"
)

func truth(i int) api.Value { return api.Value{Kind: api.Truth, Int: i} }

func integer(i int) api.Value { return api.Value{Kind: api.Int, Int: i} }

func text(s string) api.Value { return api.Value{Kind: api.Text, Text: s} }

func constant(v api.Value) api.Expr { return api.Expr{Op: api.Const, Value: v} }

func null() api.Expr { return constant(api.Value{}) }

func yes() api.Expr { return constant(truth(1)) }

func whole(i int) api.Expr { return constant(integer(i)) }

func place(i int) api.Expr { return api.Expr{Op: api.Place, Place: i} }

func name(s string) api.Expr { return api.Expr{Op: api.Named, Name: s} }

func nameOf(table, s string) api.Expr { return api.Expr{Op: api.Named, Table: table, Name: s} }

func by(op int, subs ...api.Expr) api.Expr { return api.Expr{Op: op, Subs: subs} }

func exprs(l ...api.Expr) []api.Expr { return l }

func gatherings() []int { return []int{api.CountAll, api.Count, api.Sum, api.Min, api.Max} }

// gathering: one of CountAll to Max, over an Int.
func gathering(op int) api.Expr {
	if op == api.CountAll {
		return by(op)
	}
	return by(op, whole(1))
}

// brief: what is told of something, as a text that is not too long.
func brief(x any) string {
	text := fmt.Sprintf("%+v", x)
	if len(text) > 900 {
		return text[:900] + ".."
	}
	return text
}

// read: the statement that a source is.
func read(t *testing.T, source string) api.Statement {
	t.Helper()
	tokens, _, code := lex.Cut(source)
	if code != api.OK {
		t.Fatalf("%q is not cut: %d", source, code)
	}
	s, _, code := parse.Parse(tokens)
	if code != api.OK {
		t.Fatalf("%q is not read: %d", source, code)
	}
	return s
}

// tables: a catalog of MaxTables, no two columns of which have one name but a (of t, v and w), and b (of t and v).
func tables(t *testing.T) []api.Table {
	t.Helper()
	l, _, code := catalog.Load([]string{
		"create table t ( a int , b text , c truth , d int , primary key ( a ) )",
		"create table u ( x int , y text not null , z int , primary key ( y , x ) )",
		"create table v ( b text , a truth , e truth , f text , g int , h truth , primary key ( g , b , h ) )",
		"create table w ( a text , primary key ( a ) )",
		"create index td on t ( d )",
		"create index tb on t ( b , d )",
		"create index t on u ( z )",
	})
	if code != api.OK {
		t.Fatalf("the tables are not loaded: %d", code)
	}
	return l
}

// emptied: a list without elements is nil, so that two answers can be held against each other.
func emptied(v reflect.Value) {
	switch v.Kind() {
	case reflect.Slice:
		if v.Len() == 0 {
			v.SetZero()
			return
		}
		l := reflect.MakeSlice(v.Type(), v.Len(), v.Len())
		reflect.Copy(l, v)
		for i := range l.Len() {
			emptied(l.Index(i))
		}
		v.Set(l)
	case reflect.Struct:
		for i := range v.NumField() {
			emptied(v.Field(i))
		}
	}
}

// same: whether two answers are, be their empty lists nil or not.
func same(a, b api.Bound) bool {
	emptied(reflect.ValueOf(&a).Elem())
	emptied(reflect.ValueOf(&b).Elem())
	return reflect.DeepEqual(a, b)
}

// roomy: a copy of a list, with spare room behind it in which something stands.
func roomy[T any](l []T, spare T) []T {
	kept := make([]T, len(l)+3)
	copy(kept, l)
	for i := len(l); i < len(kept); i++ {
		kept[i] = spare
	}
	return kept[:len(l)]
}

// roomyTables: a copy whose lists share nothing, and have spare room. What stands there would fit, too.
func roomyTables(l []api.Table) []api.Table {
	column := api.Column{Name: "spare", Type: api.Int, NotNull: true}
	l = roomy(l, api.Table{Name: "spare", Columns: []api.Column{column}, Key: []int{0}})
	for i, t := range l {
		t.Columns, t.Key = roomy(t.Columns, column), roomy(t.Key, 0)
		t.Indexes = roomy(t.Indexes, api.Index{Name: "spare", Places: []int{0}})
		for j, x := range t.Indexes {
			t.Indexes[j].Places = roomy(x.Places, 0)
		}
		l[i] = t
	}
	return l
}

// roomyExpr: as roomyTables; even what has no parts has room for them.
func roomyExpr(e api.Expr) api.Expr {
	e.Subs = roomyExprs(e.Subs)
	return e
}

func roomyExprs(l []api.Expr) []api.Expr {
	l = roomy(l, yes())
	for i, e := range l {
		l[i] = roomyExpr(e)
	}
	return l
}

// roomyStatement: as roomyTables.
func roomyStatement(s api.Statement) api.Statement {
	s.Columns = roomy(s.Columns, api.Column{Name: "spare", Type: api.Int})
	s.Names = roomy(s.Names, "spare")
	s.Values, s.Groups = roomyExprs(s.Values), roomyExprs(s.Groups)
	s.Sets = roomy(s.Sets, api.Set{Name: "spare", Expr: yes()})
	for i, set := range s.Sets {
		s.Sets[i].Expr = roomyExpr(set.Expr)
	}
	s.On, s.Where = roomyExpr(s.On), roomyExpr(s.Where)
	s.Orders = roomy(s.Orders, api.Order{Item: 1})
	return s
}

// told: all that can be reached from something, the spare room of its lists, too, as a text.
func told(v reflect.Value) string {
	var b strings.Builder
	switch v.Kind() {
	case reflect.Slice:
		for i := range v.Cap() {
			fmt.Fprintf(&b, "%d: %s, ", i, told(v.Slice(0, v.Cap()).Index(i)))
		}
		return fmt.Sprintf("[%d of %s]", v.Len(), b.String())
	case reflect.Struct:
		for i := range v.NumField() {
			fmt.Fprintf(&b, "%s, ", told(v.Field(i)))
		}
		return "{" + b.String() + "}"
	}
	return fmt.Sprintf("%#v", v.Interface())
}

func toldOf(x any) string { return told(reflect.ValueOf(x)) }

// stretch: where the memory of a list begins and ends, its spare room counted.
type stretch struct{ low, high uintptr }

// stretches: those of all lists in something, by where they begin.
func stretches(x any) []stretch {
	var l []stretch
	var note func(v reflect.Value)
	note = func(v reflect.Value) {
		switch v.Kind() {
		case reflect.Slice:
			if v.Cap() > 0 {
				l = append(l, stretch{v.Pointer(), v.Pointer() + uintptr(v.Cap())*v.Type().Elem().Size()})
			}
			for i := range v.Len() {
				note(v.Index(i))
			}
		case reflect.Struct:
			for i := range v.NumField() {
				note(v.Field(i))
			}
		}
	}
	note(reflect.ValueOf(x))
	slices.SortFunc(l, func(a, b stretch) int { return cmp.Compare(a.low, b.low) })
	return l
}

// sharing: whether two lists of something have memory in common.
func sharing(x any) bool {
	l := stretches(x)
	for i := 1; i < len(l); i++ {
		if l[i-1].high > l[i].low {
			return true
		}
	}
	return false
}

// sharingWith: whether an answer, no two lists of which share any, has memory in common with something, whose lists may.
func sharingWith(answer, other any) bool {
	mine := stretches(answer)
	return slices.ContainsFunc(stretches(other), func(s stretch) bool {
		// Of the lists of the answer that begin ahead of its end the last one is the last to end, too.
		n, _ := slices.BinarySearchFunc(mine, s.high, func(m stretch, high uintptr) int { return cmp.Compare(m.low, high) })
		return n > 0 && mine[n-1].high > s.low
	})
}

// The checks themselves find what they are there for.
func TestChecksFindSharing(t *testing.T) {
	l := exprs(yes(), null(), whole(1))
	for _, b := range []api.Bound{
		{Values: l[:1], Where: by(api.Not, l[1:]...)}, {Values: l, On: by(api.Not, l[2:]...)}, {Changes: []api.Change{{Expr: by(api.Or, l...)}, {Expr: by(api.Or, l...)}}}, {Where: by(api.Not, api.Expr{Subs: l[:0]}), On: by(api.Not, l...)},
	} {
		if !sharing(b) {
			t.Errorf("%s shares memory", brief(b))
		}
	}
	orders := []api.Order{{Item: 1}, {Item: 2}}
	if !sharingWith(api.Bound{Orders: orders}, api.Statement{Orders: orders[1:]}) || !sharingWith(api.Bound{On: api.Expr{Subs: l[:0]}}, api.Statement{Values: l}) || sharingWith(api.Bound{Orders: orders[:1:1]}, api.Statement{Orders: orders[1:]}) || sharing(api.Bound{Orders: orders, Values: l}) {
		t.Error("sharing tells other things")
	}
	if !same(api.Bound{Groups: []int{}, On: api.Expr{Subs: exprs()}, Values: exprs(by(1, exprs()...))}, api.Bound{Values: exprs(by(1))}) || same(api.Bound{Groups: []int{0}}, api.Bound{}) || same(api.Bound{Values: exprs(by(1, l...))}, api.Bound{Values: exprs(by(1))}) {
		t.Error("same tells other things")
	}
	s := roomyStatement(api.Statement{Values: exprs(by(api.Not, yes()))})
	kept := toldOf(s)
	if s.Values[0].Subs[:2][1].Place = 7; toldOf(s) == kept {
		t.Errorf("%s is as it was", kept)
	}
}

// checkBind: what Bind answers, with spare room and without; what was handed in stays, and nothing of it is shared.
func checkBind(t *testing.T, l []api.Table, s api.Statement, want api.Bound, code api.Errno) {
	t.Helper()
	checkOnce(t, l, s, want, code)
	checkOnce(t, roomyTables(l), roomyStatement(s), want, code)
}

func checkOnce(t *testing.T, l []api.Table, s api.Statement, want api.Bound, code api.Errno) {
	t.Helper()
	kept := [2]string{toldOf(l), toldOf(s)}
	got, e := Bind(l, s)
	if e != code || !same(got, want) {
		t.Errorf("Bind(.., %s): %s, %d, want %s, %d", brief(s), brief(got), e, brief(want), code)
	}
	if kept != [2]string{toldOf(l), toldOf(s)} {
		t.Errorf("%s is now %s, %s", kept, brief(l), brief(s))
	}
	again, _ := Bind(l, s)
	if sharing(got) || sharingWith(got, l) || sharingWith(got, s) || sharingWith(got, again) {
		t.Errorf("Bind(.., %s): %s shares memory", brief(s), brief(got))
	}
}

// binds: what a source means in the catalog of these tests.
func binds(t *testing.T, source string, want api.Bound) {
	t.Helper()
	checkBind(t, tables(t), read(t, source), want, api.OK)
}

func refuses(t *testing.T, source string, code api.Errno) {
	t.Helper()
	checkBind(t, tables(t), read(t, source), api.Bound{}, code)
}

// refusesAll: sources, one a line.
func refusesAll(t *testing.T, code api.Errno, sources string) {
	t.Helper()
	for source := range strings.Lines(sources) {
		if source = strings.TrimSpace(source); source != "" {
			refuses(t, source, code)
		}
	}
}
