package rel

import (
	"slices"

	"commonhold/api"
	"commonhold/eval"
)

// group: rows that are asked together, in the order in which they stood. There may be none.
type group [][]api.Value

// grouped: the groups of rows that have the same values in places, in the order of these values.
func grouped(rows [][]api.Value, places []int) []group {
	if len(places) == 0 {
		return []group{rows}
	}
	compare := byPlaces(places)
	rows = slices.Clone(rows)
	slices.SortStableFunc(rows, compare)
	var groups []group
	for i, row := range rows {
		if i == 0 || compare(rows[i-1], row) != 0 {
			groups = append(groups, nil)
		}
		last := len(groups) - 1
		groups[last] = append(groups[last], row)
	}
	return groups
}

// ask: what an item comes to, asked of a group.
func (g group) ask(e api.Expr) (api.Value, api.Errno) {
	if !g.may(e, api.Max, api.MaxDepth) {
		return api.Value{}, api.ErrForm
	}
	return g.comesTo(e)
}

// at: what a place comes to: that of the first row, if there is one.
func (g group) at(place int) api.Value {
	if len(g) == 0 {
		return api.Value{}
	}
	return g[0][place]
}

// comesTo: what an item that may be asked comes to.
func (g group) comesTo(e api.Expr) (api.Value, api.Errno) {
	if gather := g.gatherer(e.Op); gather != nil {
		return gather(e.Subs)
	}
	switch e.Op {
	case api.Const:
		return e.Value, api.OK
	case api.Place:
		return g.at(e.Place), api.OK
	case api.And, api.Or:
		return g.joined(e.Op, e.Subs[0], e.Subs[1])
	}
	parts, code := allAsked(e.Subs, g.comesTo)
	if code != api.OK {
		return api.Value{}, code
	}
	return ofValues(e.Op, parts...)
}

// joined: what And or Or makes of its parts.
func (g group) joined(op int, one, other api.Expr) (api.Value, api.Errno) {
	a, code := g.comesTo(one)
	if code != api.OK {
		return api.Value{}, code
	}
	// What is known while the other part is unknown stays so whatever that part is: then it is not asked.
	if v, code := ofValues(op, a, api.Value{}); code != api.OK || !isNull(v) {
		return v, code
	}
	b, code := g.comesTo(other)
	if code != api.OK {
		return api.Value{}, code
	}
	return ofValues(op, a, b)
}

// ofValues: what an expression comes to whose parts came to these values.
func ofValues(op int, parts ...api.Value) (api.Value, api.Errno) {
	e := api.Expr{Op: op}
	for _, v := range parts {
		e.Subs = append(e.Subs, api.Expr{Op: api.Const, Value: v})
	}
	return eval.Eval(e, nil)
}

// isNull: values may be here, so that there is but one Null.
func isNull(v api.Value) bool {
	return v == api.Value{}
}
