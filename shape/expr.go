package shape

import (
	"commonhold/api"
	"commonhold/value"
)

// exprOutline: an expression with its parts by their number, so that it can be compared whole.
type exprOutline struct {
	op          int
	value       api.Value
	table, name string
	place, subs int
}

func exprOutlineOf(e api.Expr) exprOutline {
	return exprOutline{op: e.Op, value: e.Value, table: e.Table, name: e.Name, place: e.Place, subs: len(e.Subs)}
}

// isOnlyExpr: whether an expression has nothing beside what was kept of it, so that all other fields are zero.
func isOnlyExpr(e, kept api.Expr) bool {
	return exprOutlineOf(e) == exprOutlineOf(kept)
}

// isNone: whether it is no expression at all.
func isNone(e api.Expr) bool {
	return exprOutlineOf(e) == exprOutline{}
}

// mayExpr: whether an expression may be written.
func mayExpr(e api.Expr) bool {
	return mayWithin(e, api.MaxDepth)
}

// mayWithin: mayExpr, with at most so many expressions within each other. Where none are left nothing is looked at, so that parts that have themselves as parts come to an end.
func mayWithin(e api.Expr, depth int) bool {
	if depth == 0 {
		return false
	}
	switch e.Op {
	case api.Const:
		return isOnlyExpr(e, api.Expr{Op: e.Op, Value: e.Value}) && mayConst(e.Value)
	case api.Named:
		return isOnlyExpr(e, api.Expr{Op: e.Op, Table: e.Table, Name: e.Name}) && mayNamed(e.Table, e.Name)
	}
	n := partsOf(e.Op)
	return isOnlyExpr(e, api.Expr{Op: e.Op, Subs: e.Subs}) &&
		mayAll(e.Subs, n, n, func(sub api.Expr) bool { return mayWithin(sub, depth-1) })
}

// mayConst: a number less than 0 has no token; it is written as Neg of one.
func mayConst(v api.Value) bool {
	return value.Check(v) == api.OK && v.Int >= 0
}

func mayNamed(table, name string) bool {
	return MayName(name) && (table == "" || MayName(table))
}

// partsOf: how many parts an expression has; -1, which no list has: there is no such one that is made of parts.
func partsOf(op int) int {
	switch {
	case op >= api.Neg && op <= api.IsSome:
		return 1
	case op >= api.Plus && op <= api.Or:
		return 2
	case op == api.CountAll:
		return 0
	case op >= api.Count && op <= api.Max:
		return 1
	}
	return -1
}
