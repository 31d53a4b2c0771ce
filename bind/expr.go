package bind

import "commonhold/api"

// anyType: the type of Null, which passes for each other one.
const anyType = api.Null

// column: of a table that is named so.
type column struct {
	table, name string
	kind        int
}

// columns: those that the expressions of a statement can name.
type columns []column

func columnsOf(t api.Table) columns {
	var c columns
	for _, x := range t.Columns {
		c = append(c, column{table: t.Name, name: x.Name, kind: x.Type})
	}
	return c
}

// named: a column's place and its type.
func (c columns) named(table, name string) (int, int, api.Errno) {
	at := -1
	for i, x := range c {
		switch {
		case x.name != name || table != "" && x.table != table:
			continue
		case at >= 0:
			return 0, 0, api.ErrTwice
		}
		at = i
	}
	if at < 0 {
		return 0, 0, api.ErrNone
	}
	return at, c[at].kind, api.OK
}

// bound: an expression, its parts ahead of itself, and its type. All of it is made anew, so that it shares nothing.
func (c columns) bound(e api.Expr) (api.Expr, int, api.Errno) {
	switch e.Op {
	case api.Const:
		return api.Expr{Op: e.Op, Value: e.Value}, e.Value.Kind, api.OK
	case api.Named:
		place, kind, code := c.named(e.Table, e.Name)
		if code != api.OK {
			return api.Expr{}, 0, code
		}
		return placed(place), kind, api.OK
	}
	x := api.Expr{Op: e.Op}
	var kinds [2]int
	for i, sub := range e.Subs {
		part, kind, code := c.bound(sub)
		if code != api.OK {
			return api.Expr{}, 0, code
		}
		x.Subs, kinds[i] = append(x.Subs, part), kind
	}
	kind, code := typeOf(e.Op, kinds)
	if code != api.OK {
		return api.Expr{}, 0, code
	}
	return x, kind, api.OK
}

func placed(place int) api.Expr {
	return api.Expr{Op: api.Place, Place: place}
}

// typeOf: the type of an expression whose parts are of these kinds. Where it has fewer parts, what stands for the others is anyType, which passes.
func typeOf(op int, kinds [2]int) (int, api.Errno) {
	areAll := func(kind int) bool { return passes(kinds[0], kind) && passes(kinds[1], kind) }
	kind, fit := api.Int, true
	switch {
	case op == api.CountAll || op == api.Count:
	case op == api.IsNull || op == api.IsSome:
		kind = api.Truth
	case op == api.Min || op == api.Max:
		kind = kinds[0]
	case op == api.Not || op == api.And || op == api.Or:
		kind, fit = api.Truth, areAll(api.Truth)
	case op >= api.Equal && op <= api.Least:
		kind, fit = api.Truth, areAll(kinds[0]) || areAll(kinds[1])
	default:
		fit = areAll(api.Int)
	}
	if !fit {
		return 0, api.ErrType
	}
	return kind, api.OK
}

func passes(kind, wanted int) bool {
	return kind == wanted || kind == anyType
}

// of: an expression that has to be of a type.
func (c columns) of(e api.Expr, wanted int) (api.Expr, api.Errno) {
	x, kind, code := c.bound(e)
	if code != api.OK {
		return api.Expr{}, code
	}
	if !passes(kind, wanted) {
		return api.Expr{}, api.ErrType
	}
	return x, api.OK
}

// condition: On or Where, if there is such.
func (c columns) condition(e api.Expr) (api.Expr, api.Errno) {
	if e.Op == 0 {
		return api.Expr{}, api.OK
	}
	return c.of(e, api.Truth)
}

// items: the Values of a select, and their types; where there are none, all columns.
func (c columns) items(l []api.Expr) ([]api.Expr, []int, api.Errno) {
	var values []api.Expr
	var types []int
	if len(l) == 0 {
		for i, x := range c {
			values, types = append(values, placed(i)), append(types, x.kind)
		}
	}
	for _, e := range l {
		x, kind, code := c.bound(e)
		if code != api.OK {
			return nil, nil, code
		}
		values, types = append(values, x), append(types, kind)
	}
	return values, types, api.OK
}

// places: those of the columns that expressions name.
func (c columns) places(l []api.Expr) ([]int, api.Errno) {
	var places []int
	for _, e := range l {
		place, _, code := c.named(e.Table, e.Name)
		if code != api.OK {
			return nil, code
		}
		places = append(places, place)
	}
	return places, api.OK
}
