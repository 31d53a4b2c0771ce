package plan

import (
	"commonhold/api"
	"commonhold/value"
)

// sides: the comparisons that limit a column, and what each of them is from the other side.
var sides = [...]struct{ op, other int }{
	{api.Equal, api.Equal},
	{api.Less, api.More},
	{api.Most, api.Least},
	{api.More, api.Less},
	{api.Least, api.Most},
}

// otherSide: what a comparison is from the other side, if it is one that limits.
func otherSide(op int) (int, bool) {
	for _, s := range sides {
		if s.op == op {
			return s.other, true
		}
	}
	return 0, false
}

// limit: the column in a place is to be Equal to a value, Less, at Most, More, or at Least that.
type limit struct {
	place int
	op    int
	value api.Value
}

// limitOf: what an expression limits, if it is simple. Parts of its parts are not looked at, so that those that have themselves as parts come to an end.
func limitOf(e api.Expr) (limit, bool) {
	other, ok := otherSide(e.Op)
	if !ok || outlineOf(e) != (outline{op: e.Op, subs: 2}) {
		return limit{}, false
	}
	at, by, op := e.Subs[0], e.Subs[1], e.Op
	if at.Op == api.Const {
		at, by, op = by, at, other
	}
	if !isPlace(at) || !isSome(by) {
		return limit{}, false
	}
	return limit{place: at.Place, op: op, value: by.Value}, true
}

// outline: an expression with its parts by their number, so that it can be compared whole.
type outline struct {
	op          int
	value       api.Value
	table, name string
	place, subs int
}

func outlineOf(e api.Expr) outline {
	return outline{op: e.Op, value: e.Value, table: e.Table, name: e.Name, place: e.Place, subs: len(e.Subs)}
}

func isPlace(e api.Expr) bool {
	return outlineOf(e) == outline{op: api.Place, place: e.Place} && e.Place >= 0
}

// isSome: whether it is a Const that is not Null.
func isSome(e api.Expr) bool {
	return outlineOf(e) == outline{op: api.Const, value: e.Value} && value.Check(e.Value) == api.OK && e.Value.Kind != api.Null
}

// limits: what limits one column.
type limits struct {
	equals []limit
	bounds []limit // those that are not Equal
}

// limitsOf: what limits each column, by its place, of a table with so many. All that is asked is simple.
func limitsOf(asked []api.Expr, columns int) map[int]limits {
	limited := map[int]limits{}
	for _, e := range asked {
		m, ok := limitOf(e)
		if !ok || m.place >= columns {
			continue
		}
		c := limited[m.place]
		if m.op == api.Equal {
			c.equals = append(c.equals, m)
		} else {
			c.bounds = append(c.bounds, m)
		}
		limited[m.place] = c
	}
	return limited
}
