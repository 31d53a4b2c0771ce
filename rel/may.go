package rel

import (
	"commonhold/api"
	"commonhold/eval"
)

// may: whether an expression may be asked of a group, none of whose Ops is above last, with at most so many expressions within each other. Where none are left nothing is looked at, so that parts that have themselves as parts come to an end.
func (g group) may(e api.Expr, last, depth int) bool {
	switch {
	case depth == 0 || e.Op > last:
		return false
	case e.Op == api.Const:
		return eval.May(e, 0)
	case e.Op == api.Place:
		// The place is held against the group, so that all else of it has to be as of the first place.
		place := e.Place
		e.Place = 0
		return eval.May(e, 1) && hasPlace(g, place)
	}
	// How many parts there are is asked first, so that a list that is too long is not gone through.
	if !isBare(e) || len(e.Subs) != partsOf(e.Op) {
		return false
	}
	if e.Op >= api.CountAll {
		// What is asked of all rows does not stand within itself.
		last = api.Or
	}
	for _, sub := range e.Subs {
		if !g.may(sub, last, depth-1) {
			return false
		}
	}
	return true
}

// isBare: whether an expression has nothing but an Op and parts.
func isBare(e api.Expr) bool {
	return isNull(e.Value) && e.Table == "" && e.Name == "" && e.Place == 0
}

// partsOf: how many parts an expression has; -1, which no list has: there is no such one that is made of parts and may be asked.
func partsOf(op int) int {
	switch {
	case op == api.CountAll:
		return 0
	case op >= api.Neg && op <= api.IsSome, op >= api.Count && op <= api.Max:
		return 1
	case op >= api.Plus && op <= api.Or:
		return 2
	}
	return -1
}
