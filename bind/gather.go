package bind

import (
	"slices"

	"commonhold/api"
)

// gathers: whether one of CountAll to Max: what comes of many rows at once.
func gathers(e api.Expr) bool {
	return e.Op >= api.CountAll && e.Op <= api.Max
}

// hasGathering: whether one that gathers stands in an expression.
func hasGathering(e api.Expr) bool {
	return gathers(e) || slices.ContainsFunc(e.Subs, hasGathering)
}

// nests: whether one that gathers stands within another one.
func nests(e api.Expr) bool {
	if gathers(e) {
		return slices.ContainsFunc(e.Subs, hasGathering)
	}
	return slices.ContainsFunc(e.Subs, nests)
}

// misplaces: whether one that gathers stands where each row is asked for itself, or within another one.
func misplaces(s api.Statement) bool {
	single := []api.Expr{s.On, s.Where}
	for _, set := range s.Sets {
		single = append(single, set.Expr)
	}
	if s.Kind == api.Insert {
		single = append(single, s.Values...)
	}
	return slices.ContainsFunc(single, hasGathering) || slices.ContainsFunc(s.Values, nests)
}

// strays: whether in a bound expression stands a column that is none of the groups, and that nothing gathers, so that a group does not tell what it is.
func strays(e api.Expr, groups []int) bool {
	switch {
	case gathers(e):
		return false
	case e.Op == api.Place:
		return !slices.Contains(groups, e.Place)
	}
	return slices.ContainsFunc(e.Subs, func(sub api.Expr) bool { return strays(sub, groups) })
}
