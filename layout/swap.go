package layout

import "commonhold/api"

// swaps: whether next can come into the place of old, or what is refused first.
func swaps(l api.Layout, old, next int) api.Errno {
	switch {
	case !May(l):
		return api.ErrForm
	case !isUnit(next):
		return api.ErrRange
	case !has(l.Chains, old):
		return api.ErrNone
	case has(l.Chains, next):
		return api.ErrTwice
	case l.Epoch == api.MaxEpoch:
		return api.ErrOver
	}
	return api.OK
}

// swapped: the chains as new lists, next in the place of old.
func swapped(chains [][]int, old, next int) [][]int {
	made := make([][]int, len(chains))
	for i, chain := range chains {
		made[i] = make([]int, len(chain))
		for j, unit := range chain {
			if unit == old {
				unit = next
			}
			made[i][j] = unit
		}
	}
	return made
}
