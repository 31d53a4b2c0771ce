package shape

import "commonhold/api"

// outline: a statement with its lists by their lengths, so that it can be compared whole.
type outline struct {
	kind                                         int
	name, table, other                           string
	columns, names, values, sets, groups, orders int
	on, where                                    exprOutline
	limited                                      bool
	limit                                        int
}

func outlineOf(s api.Statement) outline {
	return outline{
		kind: s.Kind,
		name: s.Name, table: s.Table, other: s.Other,
		columns: len(s.Columns), names: len(s.Names), values: len(s.Values),
		sets: len(s.Sets), groups: len(s.Groups), orders: len(s.Orders),
		on: exprOutlineOf(s.On), where: exprOutlineOf(s.Where),
		limited: s.Limited, limit: s.Limit,
	}
}

// isOnly: whether a statement has nothing beside what was kept of it, so that all other fields are zero.
func isOnly(s, kept api.Statement) bool {
	return outlineOf(s) == outlineOf(kept)
}

// mayAll: whether a list has so many elements, at least and at most, and each of them may be.
func mayAll[T any](l []T, least, most int, may func(T) bool) bool {
	// How many there are is asked first, so that a list that is too long is not gone through.
	if len(l) < least || len(l) > most {
		return false
	}
	for _, x := range l {
		if !may(x) {
			return false
		}
	}
	return true
}

func mayMakeTable(s api.Statement) bool {
	return isOnly(s, api.Statement{Kind: s.Kind, Table: s.Table, Columns: s.Columns, Names: s.Names}) &&
		MayName(s.Table) && mayAll(s.Columns, 1, api.MaxCols, mayColumn) && mayNames(s.Names)
}

func mayMakeIndex(s api.Statement) bool {
	return isOnly(s, api.Statement{Kind: s.Kind, Name: s.Name, Table: s.Table, Names: s.Names}) &&
		MayName(s.Name) && MayName(s.Table) && mayNames(s.Names)
}

func mayInsert(s api.Statement) bool {
	return isOnly(s, api.Statement{Kind: s.Kind, Table: s.Table, Values: s.Values}) &&
		MayName(s.Table) && mayAll(s.Values, 1, api.MaxItems, mayExpr)
}

func mayUpdate(s api.Statement) bool {
	return isOnly(s, api.Statement{Kind: s.Kind, Table: s.Table, Sets: s.Sets, Where: s.Where}) &&
		MayName(s.Table) && mayAll(s.Sets, 1, api.MaxItems, maySet) && mayWhere(s.Where)
}

func mayDelete(s api.Statement) bool {
	return isOnly(s, api.Statement{Kind: s.Kind, Table: s.Table, Where: s.Where}) &&
		MayName(s.Table) && mayWhere(s.Where)
}

func maySelect(s api.Statement) bool {
	kept := s
	kept.Name, kept.Columns, kept.Names, kept.Sets = "", nil, nil, nil
	return isOnly(s, kept) &&
		MayName(s.Table) && mayJoin(s.Other, s.On) &&
		mayAll(s.Values, 0, api.MaxItems, mayExpr) && mayWhere(s.Where) &&
		mayAll(s.Groups, 0, api.MaxItems, func(e api.Expr) bool { return e.Op == api.Named && mayExpr(e) }) &&
		mayAll(s.Orders, 0, api.MaxItems, func(o api.Order) bool { return o.Item >= 0 }) &&
		mayLimit(s.Limited, s.Limit)
}

func mayColumn(c api.Column) bool {
	return MayName(c.Name) && c.Type >= api.Truth && c.Type <= api.Text
}

// mayNames: of a key, or of an index.
func mayNames(l []string) bool {
	return mayAll(l, 1, api.MaxKeys, MayName)
}

func maySet(s api.Set) bool {
	return MayName(s.Name) && mayExpr(s.Expr)
}

// mayJoin: a table that is joined and on what, or neither.
func mayJoin(other string, on api.Expr) bool {
	if other == "" {
		return isNone(on)
	}
	return MayName(other) && mayExpr(on)
}

func mayWhere(e api.Expr) bool {
	return isNone(e) || mayExpr(e)
}

func mayLimit(limited bool, limit int) bool {
	return limit == 0 || limited && limit > 0
}
