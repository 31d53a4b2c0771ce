package eval

import (
	"commonhold/api"
	"commonhold/value"
)

// outline: an expression with its parts by their number, so that it can be compared whole.
type outline struct {
	op          int
	value       api.Value
	table, name string
	place, subs int
}

func outlineOf(e api.Expr) outline {
	return outline{op: e.Op, value: e.Value, table: e.Table, name: e.Name, place: e.Place, subs: len(e.Subs)}
}

// isNone: whether it is no expression at all.
func isNone(e api.Expr) bool {
	return outlineOf(e) == outline{}
}

// mayWithin: May, with at most so many expressions within each other. Where none are left nothing is looked at, so that parts that have themselves as parts come to an end.
func mayWithin(e api.Expr, width, depth int) bool {
	if depth == 0 {
		return false
	}
	switch e.Op {
	case api.Const:
		return outlineOf(e) == outline{op: e.Op, value: e.Value} && value.Check(e.Value) == api.OK
	case api.Place:
		return outlineOf(e) == outline{op: e.Op, place: e.Place} && e.Place >= 0 && e.Place < width
	}
	// How many parts there are is asked first, so that a list that is too long is not gone through.
	if (outlineOf(e) != outline{op: e.Op, subs: partsOf(e.Op)}) {
		return false
	}
	for _, sub := range e.Subs {
		if !mayWithin(sub, width, depth-1) {
			return false
		}
	}
	return true
}

// partsOf: how many parts an expression has; -1, which no list has: there is no such one that is made of parts and may be asked.
func partsOf(op int) int {
	switch {
	case op >= api.Neg && op <= api.IsSome:
		return 1
	case op >= api.Plus && op <= api.Or:
		return 2
	}
	return -1
}
