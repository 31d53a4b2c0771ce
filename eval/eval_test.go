package eval

import (
	"cmp"
	"fmt"
	"math"
	"reflect"
	"slices"
	"strings"
	"testing"

	"commonhold/api"
)

func truth(i int) api.Value { return api.Value{Kind: api.Truth, Int: i} }

func integer(i int) api.Value { return api.Value{Kind: api.Int, Int: i} }

func text(s string) api.Value { return api.Value{Kind: api.Text, Text: s} }

func constant(v api.Value) api.Expr { return api.Expr{Op: api.Const, Value: v} }

func null() api.Expr { return constant(api.Value{}) }

func yes() api.Expr { return constant(truth(1)) }

func no() api.Expr { return constant(truth(0)) }

func whole(i int) api.Expr { return constant(integer(i)) }

func place(i int) api.Expr { return api.Expr{Op: api.Place, Place: i} }

func by(op int, subs ...api.Expr) api.Expr { return api.Expr{Op: op, Subs: subs} }

func exprs(l ...api.Expr) []api.Expr { return l }

// values: some that may be, of each Kind.
func values() []api.Value {
	return []api.Value{
		{}, truth(0), truth(1),
		integer(math.MinInt64), integer(math.MinInt64 + 1), integer(-3037000500), integer(-2), integer(-1), integer(0), integer(1), integer(2), integer(3), integer(7), integer(3037000500), integer(math.MaxInt64 - 1), integer(math.MaxInt64),
		text(""), text("0"), text("a"), text("a\x00"), text("ab"), text("b"), text("é"), text(strings.Repeat("a", api.MaxText)),
	}
}

// wrong: a value that may not be, and what is refused of it.
type wrong struct {
	v    api.Value
	code api.Errno
}

func wrongs() []wrong {
	return []wrong{
		{api.Value{Kind: 4}, api.ErrKind}, {api.Value{Kind: -1}, api.ErrKind}, {api.Value{Kind: math.MaxInt64}, api.ErrKind}, {api.Value{Kind: math.MinInt64, Int: 1, Text: "\xff"}, api.ErrKind},
		{text(strings.Repeat("a", api.MaxText+1)), api.ErrSize}, {api.Value{Text: strings.Repeat("\xff", 1<<16)}, api.ErrSize},
		{truth(2), api.ErrForm}, {truth(-1), api.ErrForm}, {api.Value{Int: 1}, api.ErrForm}, {api.Value{Text: "a"}, api.ErrForm}, {api.Value{Kind: api.Int, Text: "a"}, api.ErrForm}, {api.Value{Kind: api.Truth, Text: "a"}, api.ErrForm}, {api.Value{Kind: api.Text, Int: 1}, api.ErrForm}, {text("\xff"), api.ErrForm},
	}
}

func oneParted() []int { return []int{api.Neg, api.Not, api.IsNull, api.IsSome} }

func twoParted() []int {
	return []int{api.Plus, api.Minus, api.Times, api.Over, api.Rest, api.Equal, api.Differ, api.Less, api.Most, api.More, api.Least, api.And, api.Or}
}

// strangers: Ops that may not be asked, whatever else there is.
func strangers() []int {
	return []int{0, api.Named, api.CountAll, api.Count, api.Sum, api.Min, api.Max, api.Max + 1, 100, -1, 1<<32 + api.Const, 1<<32 + api.And, math.MaxInt64, math.MinInt64}
}

// nested: so many expressions within each other, the innermost of which is this one.
func nested(n int, wrap func(e api.Expr) api.Expr, inner api.Expr) api.Expr {
	for range n - 1 {
		inner = wrap(inner)
	}
	return inner
}

// wraps: ways to put an expression within another one, as each part of each Op.
func wraps(other api.Expr) []func(api.Expr) api.Expr {
	var l []func(api.Expr) api.Expr
	for _, op := range oneParted() {
		l = append(l, func(e api.Expr) api.Expr { return by(op, e) })
	}
	for _, op := range twoParted() {
		l = append(l, func(e api.Expr) api.Expr { return by(op, e, other) }, func(e api.Expr) api.Expr { return by(op, other, e) })
	}
	return l
}

// brief: what is told of something, as a text that is not too long.
func brief(x any) string {
	text := fmt.Sprintf("%+v", x)
	if len(text) > 600 {
		return text[:600] + ".."
	}
	return text
}

// roomy: a copy of a list, with spare room behind it in which something stands.
func roomy[T any](l []T, spare T) []T {
	kept := make([]T, len(l)+3)
	copy(kept, l)
	for i := len(l); i < len(kept); i++ {
		kept[i] = spare
	}
	return kept[:len(l)]
}

// roomyExpr: a copy whose lists share nothing, and have spare room. What stands there could be asked, too.
func roomyExpr(e api.Expr) api.Expr {
	e.Subs = roomy(e.Subs, yes())
	for i, sub := range e.Subs {
		e.Subs[i] = roomyExpr(sub)
	}
	return e
}

// told: all that can be reached from something, the spare room of its lists, too, as a text.
func told(v reflect.Value) string {
	var b strings.Builder
	switch v.Kind() {
	case reflect.Slice:
		for i := range v.Cap() {
			fmt.Fprintf(&b, "%d: %s, ", i, told(v.Slice(0, v.Cap()).Index(i)))
		}
		return fmt.Sprintf("[%d of %s]", v.Len(), b.String())
	case reflect.Struct:
		for i := range v.NumField() {
			fmt.Fprintf(&b, "%s, ", told(v.Field(i)))
		}
		return "{" + b.String() + "}"
	}
	return fmt.Sprintf("%#v", v.Interface())
}

func toldOf(x any) string { return told(reflect.ValueOf(x)) }

// sameExpr: a list without elements may be nil or not.
func sameExpr(a, b api.Expr) bool {
	return a.Op == b.Op && a.Value == b.Value && a.Table == b.Table && a.Name == b.Name && a.Place == b.Place && sameAll(a.Subs, b.Subs)
}

func sameAll(a, b []api.Expr) bool { return slices.EqualFunc(a, b, sameExpr) }

// stretch: where the memory of a list begins and ends, its spare room counted.
type stretch struct{ low, high uintptr }

func byLow(a, b stretch) int { return cmp.Compare(a.low, b.low) }

// stretches: those of all lists within expressions, and of the list of these itself.
func stretches(l []api.Expr) []stretch {
	var all []stretch
	var note func(l []api.Expr)
	note = func(l []api.Expr) {
		if cap(l) > 0 {
			v := reflect.ValueOf(l)
			all = append(all, stretch{v.Pointer(), v.Pointer() + uintptr(cap(l))*v.Type().Elem().Size()})
		}
		for _, e := range l {
			note(e.Subs)
		}
	}
	note(l)
	slices.SortFunc(all, byLow)
	return all
}

// sharing: whether two lists within some lists of expressions have memory in common.
func sharing(lists ...[]api.Expr) bool {
	var all []stretch
	for _, l := range lists {
		all = append(all, stretches(l)...)
	}
	slices.SortFunc(all, byLow)
	for i := 1; i < len(all); i++ {
		if all[i-1].high > all[i].low {
			return true
		}
	}
	return false
}

// sharingWith: whether an answer, no two lists of which share any, has memory in common with something, whose lists may.
func sharingWith(answer, other []api.Expr) bool {
	mine := stretches(answer)
	return slices.ContainsFunc(stretches(other), func(s stretch) bool {
		// Of the lists of the answer that begin ahead of its end the last one is the last to end, too.
		n, _ := slices.BinarySearchFunc(mine, s.high, func(m stretch, high uintptr) int { return cmp.Compare(m.low, high) })
		return n > 0 && mine[n-1].high > s.low
	})
}

// The checks themselves find what they are there for.
func TestChecksFindSharing(t *testing.T) {
	l := exprs(yes(), no(), null())
	for _, shared := range [][]api.Expr{
		{by(api.Not, l...), by(api.Not, l[2:]...)}, {{Subs: l[:1]}, {Subs: l[1:]}}, {by(api.Not, l...), by(api.Not, by(api.Not, l...))},
	} {
		if !sharing(shared) {
			t.Errorf("%s shares memory", brief(shared))
		}
	}
	if !sharingWith(l, l) || !sharingWith(l[1:], l[:2]) || !sharingWith(exprs(by(api.Not, l...)), exprs(by(api.Not, l[2:]...))) || !sharingWith(l[:1:1], exprs(yes(), by(api.Not, l...))) || sharingWith(l[:1:1], l[1:]) || sharingWith(l[1:], l[:1:1]) || sharingWith(nil, l) || sharingWith(l, nil) {
		t.Error("sharingWith tells other things")
	}
	if !sharing(l, l) || !sharing(l[:0], l[2:]) || sharing(l, exprs(yes(), by(api.Not, no()))) || sharing(nil, nil) || sharing(l, nil) {
		t.Error("sharing tells other things")
	}
	room := by(api.Not, l[:1]...)
	kept := toldOf(room)
	if l[2].Name = "x"; toldOf(room) == kept {
		t.Errorf("%s is as it was", kept)
	}
}

// selfish: expressions that have themselves as parts.
func selfish() []api.Expr {
	one, two, mixed := make([]api.Expr, 1), make([]api.Expr, 2), make([]api.Expr, 2)
	one[0] = by(api.Not, one...)
	two[0], two[1] = by(api.And, two...), by(api.And, two...)
	mixed[0], mixed[1] = yes(), by(api.Or, mixed...)
	return exprs(one[0], two[0], mixed[1], by(api.Plus, whole(1), one[0]))
}
