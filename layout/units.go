package layout

import (
	"iter"

	"commonhold/api"
)

// units: those of all chains, chain by chain, each from its head to its end.
func units(chains [][]int) iter.Seq[int] {
	return func(yield func(unit int) bool) {
		for _, chain := range chains {
			for _, unit := range chain {
				if !yield(unit) {
					return
				}
			}
		}
	}
}

func isUnit(n int) bool { return n >= 0 && n < api.MaxUnits }

// has: whether a unit is in one of the chains.
func has(chains [][]int, unit int) bool {
	for u := range units(chains) {
		if u == unit {
			return true
		}
	}
	return false
}

// fitChains: whether there may be as many chains, and as many units in each.
func fitChains(chains [][]int) bool {
	if len(chains) < 1 || len(chains) > api.MaxUnits {
		return false
	}
	for _, chain := range chains {
		if len(chain) < 1 || len(chain) > api.MaxChain {
			return false
		}
	}
	return true
}

// fitUnits: whether all are numbers of units, none of them twice.
func fitUnits(chains [][]int) bool {
	var seen [api.MaxUnits]bool
	for unit := range units(chains) {
		if !isUnit(unit) || seen[unit] {
			return false
		}
		seen[unit] = true
	}
	return true
}

// posOf: the position of an address of a chain. Positions go round the chains.
func posOf(l api.Layout, chain, addr int) int {
	return addr*len(l.Chains) + chain
}
