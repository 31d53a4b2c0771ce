package rel

import (
	"iter"
	"slices"

	"commonhold/api"
	"commonhold/eval"
)

// pairs: each row of a with each row of b, as one row of new memory.
func pairs(a, b [][]api.Value) iter.Seq[[]api.Value] {
	return func(yield func(row []api.Value) bool) {
		for _, left := range a {
			for _, right := range b {
				if !yield(slices.Concat(left, right)) {
					return
				}
			}
		}
	}
}

// allHold: whether all that is asked of a row holds. Behind the first one that does not, none is asked.
func allHold(asked []api.Expr, row []api.Value) (bool, api.Errno) {
	for _, e := range asked {
		if holds, code := eval.Holds(e, row); code != api.OK || !holds {
			return false, code
		}
	}
	return true, api.OK
}
