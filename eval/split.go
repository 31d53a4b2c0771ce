package eval

import "commonhold/api"

// conjuncts: those of an expression, whose parts are still shared with it; at most so many And's within each other are split.
func conjuncts(e api.Expr, depth int) []api.Expr {
	switch {
	case e.Op == 0:
		return nil
	case e.Op != api.And || len(e.Subs) != 2 || depth == 0:
		return []api.Expr{e}
	}
	return append(conjuncts(e.Subs[0], depth-1), conjuncts(e.Subs[1], depth-1)...)
}

// copied: a list of new memory, and so are all lists within it.
func copied(l []api.Expr) []api.Expr {
	l = append([]api.Expr(nil), l...)
	for i, e := range l {
		l[i].Subs = copied(e.Subs)
	}
	return l
}
