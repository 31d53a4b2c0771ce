package bind

import (
	"slices"
	"strings"
	"testing"

	"commonhold/api"
)

// part: an expression of t join u, what it is bound to, and its type, or what is refused of it.
type part struct {
	e, bound api.Expr
	kind     int
	code     api.Errno
}

// parts: for each type, ANY first, some that are of it.
func parts() []part {
	return []part{
		{e: null(), bound: null()},
		{e: yes(), bound: yes(), kind: api.Truth},
		{e: whole(7), bound: whole(7), kind: api.Int},
		{e: constant(text("a'")), bound: constant(text("a'")), kind: api.Text},
		{e: constant(text("")), bound: constant(text("")), kind: api.Text},
		{e: name("c"), bound: place(2), kind: api.Truth},
		{e: name("z"), bound: place(6), kind: api.Int},
		{e: nameOf("t", "b"), bound: place(1), kind: api.Text},
	}
}

// refusedParts: some of each code. The table v is not there.
func refusedParts() []part {
	return []part{
		{e: name("q"), code: api.ErrNone},
		{e: nameOf("t", "z"), code: api.ErrNone},
		{e: nameOf("v", "e"), code: api.ErrNone},
		{e: by(api.Neg, yes()), code: api.ErrType},
		{e: by(api.IsNull, by(api.Equal, whole(1), constant(text("1")))), code: api.ErrType},
		{e: by(api.And, by(api.Neg, yes()), name("q")), code: api.ErrType},
		{e: by(api.And, name("q"), by(api.Neg, yes())), code: api.ErrNone},
		{e: by(api.Plus, yes(), name("q")), code: api.ErrNone},
	}
}

// typesOf: what is to come of parts of the types Null, Truth, Int and Text; of two, a row for each type of the first one.
func typesOf(op int) []string {
	switch {
	case op == api.Neg || op == api.Sum:
		return strings.Fields("i!i!")
	case op == api.Not:
		return strings.Fields("tt!!")
	case op == api.IsNull || op == api.IsSome:
		return strings.Fields("tttt")
	case op == api.Count:
		return strings.Fields("iiii")
	case op == api.Min || op == api.Max:
		return strings.Fields("ntis")
	case op == api.Plus || op == api.Minus || op == api.Times || op == api.Over || op == api.Rest:
		return strings.Fields("i!i! !!!! i!i! !!!!")
	case op == api.And || op == api.Or:
		return strings.Fields("tt!! tt!! !!!! !!!!")
	}
	return strings.Fields("tttt tt!! t!t! t!!t")
}

// made: an expression of an Op over parts of some types.
func made(op int, l ...part) part {
	x := part{e: by(op), bound: by(op)}
	for _, p := range l {
		if p.code != api.OK && x.code == api.OK {
			x.code = p.code
		}
		x.e.Subs, x.bound.Subs = append(x.e.Subs, p.e), append(x.bound.Subs, p.bound)
	}
	if x.code != api.OK {
		return x
	}
	row := typesOf(op)[0]
	if len(l) == 2 {
		row = typesOf(op)[l[0].kind]
	}
	x.kind = strings.IndexByte("ntis", row[l[len(l)-1].kind])
	if x.kind < 0 {
		x.kind, x.code = 0, api.ErrType
	}
	return x
}

func oneParted() []int {
	return []int{api.Neg, api.Not, api.IsNull, api.IsSome, api.Count, api.Sum, api.Min, api.Max}
}

func twoParted() []int {
	return []int{api.Plus, api.Minus, api.Times, api.Over, api.Rest, api.Equal, api.Differ, api.Less, api.Most, api.More, api.Least, api.And, api.Or}
}

// checkPart: an expression as a Value of t join u, which is grouped by all columns, so that each may stand anywhere.
func checkPart(t *testing.T, l []api.Table, x part) {
	t.Helper()
	s := api.Statement{Kind: api.Select, Table: "t", Other: "u", On: yes(), Values: exprs(x.e), Groups: exprs(name("a"), name("b"), name("c"), name("d"), name("x"), name("y"), name("z"))}
	want := api.Bound{Kind: api.Select, Other: 2, On: yes(), Values: exprs(x.bound), Grouped: true, Groups: []int{0, 1, 2, 3, 4, 5, 6}, Types: []int{x.kind}}
	if x.code != api.OK {
		want = api.Bound{}
	}
	checkBind(t, l, s, want, x.code)
}

// P11.2: each Op over parts of each type.
func TestTypes(t *testing.T) {
	l := tables(t)
	checkPart(t, l, part{e: by(api.CountAll), bound: by(api.CountAll), kind: api.Int})
	for _, a := range parts() {
		checkPart(t, l, a)
		for _, op := range oneParted() {
			checkPart(t, l, made(op, a))
		}
		for _, op := range twoParted() {
			for _, b := range parts() {
				checkPart(t, l, made(op, a, b))
			}
		}
	}
}

// P11.2: what is refused of a part is refused ahead of what is refused of the whole; of two parts the first one is told.
func TestPartsRefused(t *testing.T) {
	l := tables(t)
	for _, a := range refusedParts() {
		checkPart(t, l, a)
		for _, op := range oneParted() {
			checkPart(t, l, made(op, a))
		}
		for _, op := range twoParted() {
			for _, b := range append(parts(), refusedParts()...) {
				checkPart(t, l, made(op, a, b))
				checkPart(t, l, made(op, b, a))
			}
		}
	}
}

// P11.2: expressions of three within each other, each over each.
func TestTypesWithinEachOther(t *testing.T) {
	l := tables(t)
	var inner []part
	some := parts()[:4]
	for _, a := range some {
		for _, op := range oneParted()[:4] {
			inner = append(inner, made(op, a))
		}
		for _, op := range []int{api.Plus, api.Equal, api.Least, api.And} {
			for _, b := range some {
				inner = append(inner, made(op, a, b))
			}
		}
	}
	inner = append(inner, part{e: by(api.Min, null()), bound: by(api.Min, null())}, part{e: by(api.Max, name("c")), bound: by(api.Max, place(2)), kind: api.Truth})
	for _, a := range inner {
		for _, op := range oneParted()[:4] {
			checkQuick(t, l, made(op, a))
		}
		for _, op := range twoParted() {
			for _, b := range some {
				checkQuick(t, l, made(op, a, b))
				checkQuick(t, l, made(op, b, a))
			}
			for _, b := range inner {
				checkQuick(t, l, made(op, a, b))
			}
		}
	}
}

// checkQuick: checkPart, but for what is shared and changed.
func checkQuick(t *testing.T, l []api.Table, x part) {
	t.Helper()
	s := api.Statement{Kind: api.Select, Table: "t", Other: "u", On: yes(), Values: exprs(x.e), Groups: exprs(name("c"))}
	b, code := Bind(l, s)
	if code != x.code || code == api.OK && (b.Types[0] != x.kind || toldOf(b.Values) != toldOf(exprs(x.bound))) {
		t.Errorf("%s: %s, %d, want %s, %d, %d", brief(x.e), brief(b), code, brief(x.bound), x.kind, x.code)
	}
}

// P11.2: MaxDepth expressions within each other, on each side.
func TestDeep(t *testing.T) {
	l := tables(t)
	left, right, full := name("d"), name("z"), name("a")
	boundLeft, boundRight, boundFull := place(3), place(6), place(0)
	for n := 1; n <= api.MaxDepth; n++ {
		checkPart(t, l, part{e: left, bound: boundLeft, kind: api.Int})
		checkPart(t, l, part{e: right, bound: boundRight, kind: api.Int})
		if n <= 8 {
			checkPart(t, l, part{e: full, bound: boundFull, kind: api.Int})
			// Lists that share memory where they are handed in share none in the answer.
			full, boundFull = by(api.Times, full, full), by(api.Times, boundFull, boundFull)
		}
		left, boundLeft = by(api.Plus, left, name("x")), by(api.Plus, boundLeft, place(4))
		right, boundRight = by(api.Over, whole(1), right), by(api.Over, whole(1), boundRight)
	}
	wide := name("q")
	for range api.MaxDepth - 1 {
		wide = by(api.Or, wide, wide)
	}
	if b, code := Bind(tables(t), api.Statement{Kind: api.Delete, Table: "t", Where: wide}); code != api.ErrNone || !same(b, api.Bound{}) {
		t.Errorf("%s, %d", brief(b), code)
	}
}

// asked: the name of a column as one asks for it, and all that have it, by their places.
func asked(c []api.Column, from int, table string, e api.Expr) []int {
	var l []int
	for i, x := range c {
		if x.Name == e.Name && (e.Table == "" || e.Table == table) {
			l = append(l, from+i)
		}
	}
	return l
}

// P11.2: names, alone and with a table, of each two tables.
func TestNames(t *testing.T) {
	l := tables(t)
	names := strings.Fields("a b c d e f g h q x y z t u v w td A_ a_ aa")
	count := map[api.Errno]int{}
	for i, one := range l {
		for j, two := range l {
			for _, table := range []string{"", "t", "u", "v", "w", "q", "td"} {
				for _, column := range names {
					e := nameOf(table, strings.ToLower(column))
					s := api.Statement{Kind: api.Select, Table: one.Name, Values: exprs(e)}
					found := asked(one.Columns, 0, one.Name, e)
					all := one.Columns
					want := api.Bound{Kind: api.Select, Table: i}
					if i != j {
						s.Other, s.On = two.Name, yes()
						want.Other, want.On = j+1, yes()
						found = append(found, asked(two.Columns, len(one.Columns), two.Name, e)...)
						all = slices.Concat(one.Columns, two.Columns)
					}
					code := []api.Errno{api.ErrNone, api.OK, api.ErrTwice}[len(found)]
					count[code]++
					if code == api.OK {
						want.Values, want.Types = exprs(place(found[0])), []int{all[found[0]].Type}
					} else {
						want = api.Bound{}
					}
					checkOnce(t, l, s, want, code)
				}
			}
		}
	}
	if count[api.OK] < 80 || count[api.ErrTwice] != 8 {
		t.Errorf("told: %v", count)
	}
}

// P11.2: what can be named where.
func TestNamesElsewhere(t *testing.T) {
	refusesAll(t, api.ErrNone, `
		insert into w values ( a )
		insert into w values ( w . a )
		insert into u values ( x , y , z )
		insert into u values ( 1 , 'a' , 1 + u . z )
		update t set d = q
		update t set d = x
		update t set d = u . x
		update t set d = u . a
		update t set d = 1 where z = 1
		update t set d = 1 where v . e
		delete from t where q
		delete from t where e
		delete from t where v . a
		select a from t where x = 1
		select u . x from t
		select t . q from t
		select a from t join u on e
		select x from t join u on v . e
		select x from t join u on c where w . a = 'a'
		select t . a from t join v on true where t . e
		select count ( q ) from t
		select count ( * ) from t group by u . x
	`)
	refusesAll(t, api.ErrTwice, `
		select a from t join v on true
		select b from v join t on true
		select t . a from t join v on b = 'a'
		select t . a from t join v on a
		select t . a from t join v on true where a
		select t . a from t join v on true group by a
		select sum ( a ) from t join v on true
		select * from w join t on a = 'a'
	`)
	for source, e := range map[string]api.Expr{
		"delete from t where c": place(2), "delete from t where t . c": place(2), "delete from v where h": place(5), "delete from w where w . a = null": by(api.Equal, place(0), null()),
	} {
		binds(t, source, api.Bound{Kind: api.Delete, Table: slices.Index([]string{"t", "u", "v", "w"}, strings.Fields(source)[2]), Where: e})
	}
	binds(t, "select v . a from t join v on t . b = v . b where e group by v . a", api.Bound{
		Kind: api.Select, Other: 3, Values: exprs(place(5)), On: by(api.Equal, place(1), place(4)), Where: place(6), Grouped: true, Groups: []int{5}, Types: []int{api.Truth},
	})
}

// conditions: each of On and Where, as a statement with it and what that is to be bound to.
func conditions(e, bound api.Expr) ([]api.Statement, []api.Bound) {
	return []api.Statement{
		{Kind: api.Update, Table: "t", Sets: []api.Set{{Name: "d", Expr: whole(1)}}, Where: e},
		{Kind: api.Delete, Table: "t", Where: e},
		{Kind: api.Select, Table: "t", Values: exprs(whole(1)), Where: e},
		{Kind: api.Select, Table: "t", Other: "u", Values: exprs(whole(1)), On: yes(), Where: e},
		{Kind: api.Select, Table: "t", Other: "u", Values: exprs(whole(1)), On: e},
	}, []api.Bound{
		{Kind: api.Update, Changes: []api.Change{{Place: 3, Expr: whole(1)}}, Where: bound},
		{Kind: api.Delete, Where: bound},
		{Kind: api.Select, Values: exprs(whole(1)), Types: []int{api.Int}, Where: bound},
		{Kind: api.Select, Other: 2, Values: exprs(whole(1)), Types: []int{api.Int}, On: yes(), Where: bound},
		{Kind: api.Select, Other: 2, Values: exprs(whole(1)), Types: []int{api.Int}, On: bound},
	}
}

// P11.2: On and Where are of Truth, or ANY.
func TestConditions(t *testing.T) {
	var l []part
	for _, p := range []part{
		{e: null(), bound: null()}, {e: yes(), bound: yes(), kind: api.Truth}, {e: whole(1), bound: whole(1), kind: api.Int}, {e: constant(text("")), bound: constant(text("")), kind: api.Text},
		{e: name("a"), bound: place(0), kind: api.Int}, {e: name("b"), bound: place(1), kind: api.Text}, {e: name("c"), bound: place(2), kind: api.Truth}, {e: name("d"), bound: place(3), kind: api.Int},
		{e: name("q"), code: api.ErrNone}, {e: by(api.Neg, yes()), code: api.ErrType},
	} {
		l = append(l, p, made(api.Not, p), made(api.IsNull, p), made(api.Neg, p), made(api.Less, p, p), made(api.Or, p, p), made(api.Plus, p, p))
	}
	for _, x := range l {
		if x.code == api.OK && x.kind != api.Truth && x.kind != api.Null {
			x.code = api.ErrType
		}
		ss, wants := conditions(x.e, x.bound)
		for i, s := range ss {
			want := wants[i]
			if x.code != api.OK {
				want = api.Bound{}
			}
			checkBind(t, tables(t), s, want, x.code)
		}
	}
}

// P11.2: where there is no On or Where, there is none in the answer.
func TestNoConditions(t *testing.T) {
	ss, wants := conditions(api.Expr{}, api.Expr{})
	for i := range ss[:4] {
		checkBind(t, tables(t), ss[i], wants[i], api.OK)
	}
}
