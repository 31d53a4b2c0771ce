package bind

import (
	"slices"

	"commonhold/api"
)

// insert: the Values, each of which is held against its column. None of them can name one.
func insert(b *api.Bound, t api.Table, s api.Statement) api.Errno {
	if len(s.Values) != len(t.Columns) {
		return api.ErrSize
	}
	for i, e := range s.Values {
		x, code := columns(nil).of(e, t.Columns[i].Type)
		if code != api.OK {
			return code
		}
		b.Values = append(b.Values, x)
	}
	return api.OK
}

// update: the Sets as Changes, and Where.
func update(b *api.Bound, t api.Table, s api.Statement) api.Errno {
	c := columnsOf(t)
	seen := map[int]struct{}{}
	for _, set := range s.Sets {
		place, code := settable(t, seen, set.Name)
		if code != api.OK {
			return code
		}
		seen[place] = struct{}{}
		x, code := c.of(set.Expr, t.Columns[place].Type)
		if code != api.OK {
			return code
		}
		b.Changes = append(b.Changes, api.Change{Place: place, Expr: x})
	}
	var code api.Errno
	b.Where, code = c.condition(s.Where)
	return code
}

// settable: the place of a column that may be set, where those that were seen are set already.
func settable(t api.Table, seen map[int]struct{}, name string) (int, api.Errno) {
	place := slices.IndexFunc(t.Columns, func(c api.Column) bool { return c.Name == name })
	if place < 0 {
		return 0, api.ErrNone
	}
	if slices.Contains(t.Key, place) {
		return 0, api.ErrState
	}
	if _, was := seen[place]; was {
		return 0, api.ErrTwice
	}
	return place, api.OK
}

// selects: all that a select has.
func selects(b *api.Bound, l []api.Table, s api.Statement) api.Errno {
	c := columnsOf(l[b.Table])
	if b.Other > 0 {
		c = append(c, columnsOf(l[b.Other-1])...)
	}
	var code api.Errno
	if b.Values, b.Types, code = c.items(s.Values); code != api.OK {
		return code
	}
	if b.On, code = c.condition(s.On); code != api.OK {
		return code
	}
	if b.Where, code = c.condition(s.Where); code != api.OK {
		return code
	}
	if b.Groups, code = c.places(s.Groups); code != api.OK {
		return code
	}
	b.Grouped = len(b.Groups) > 0 || slices.ContainsFunc(b.Values, hasGathering)
	if b.Grouped && slices.ContainsFunc(b.Values, func(e api.Expr) bool { return strays(e, b.Groups) }) {
		return api.ErrForm
	}
	if slices.ContainsFunc(s.Orders, func(o api.Order) bool { return o.Item < 1 || o.Item > len(b.Values) }) {
		return api.ErrRange
	}
	b.Orders = append([]api.Order(nil), s.Orders...)
	b.Limited, b.Limit = s.Limited, s.Limit
	return api.OK
}
