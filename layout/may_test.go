package layout

import (
	"math/rand"
	"slices"
	"testing"

	"commonhold/api"
)

func may(t *testing.T, l api.Layout, want bool) {
	t.Helper()
	if May(l) != want {
		t.Errorf("May(%v): %v", l, !want)
	}
}

// P20.1: ordinary layouts.
func TestMay(t *testing.T) {
	may(t, in(4, chain(0, 3), chain(1), chain(2)), true)
	may(t, of(chain(5)), true)
	may(t, of(chain(2, 1, 0), chain(5, 4, 3)), true)
	for _, l := range refused() {
		may(t, l, false)
	}
}

// P20.1: an epoch is from 0 to MaxEpoch.
func TestMayEpochs(t *testing.T) {
	for _, epoch := range odd() {
		for _, l := range append(eachShape(), wide()) {
			l.Epoch = epoch
			may(t, l, epoch >= 0 && epoch <= api.MaxEpoch)
		}
	}
}

// P20.1: there are 1 to MaxUnits chains.
func TestMayChains(t *testing.T) {
	may(t, api.Layout{}, false)
	may(t, of(chains()...), false)
	var l [][]int
	for u := range api.MaxUnits {
		l = append(l, chain(u))
		may(t, of(l...), true)
	}
	for u := range api.MaxUnits + 1 {
		may(t, of(append(slices.Clone(l), chain(u))...), false)
	}
	may(t, of(append(slices.Clone(l), nil)...), false)
	may(t, of(make([][]int, 100000)...), false)
}

// P20.1: there are 1 to MaxChain units of a chain, whichever chain it is.
func TestMayUnitsOfAChain(t *testing.T) {
	for _, c := range [][]int{nil, {}, {0}, {0, 1}, {0, 1, 2}, {0, 1, 2, 3}, {0, 1, 2, 3, 4, 5}, make([]int, 100000)} {
		want := len(c) >= 1 && len(c) <= api.MaxChain
		may(t, of(c), want)
		may(t, of(c, chain(4), chain(5)), want)
		may(t, of(chain(4), c, chain(5)), want)
		may(t, of(chain(4), chain(5), c), want)
	}
}

// P20.1: units are numbers from 0 on below MaxUnits, in each place.
func TestMayNumbers(t *testing.T) {
	for _, unit := range odd() {
		for _, l := range append(eachShape(), wide()) {
			for _, c := range l.Chains {
				for i, was := range c {
					c[i] = unit
					may(t, l, modelMay(l))
					if unit < 0 || unit >= api.MaxUnits {
						may(t, l, false)
					}
					c[i] = was
				}
			}
		}
	}
}

// P20.1: no unit is twice, in one chain or in two.
func TestMayTwice(t *testing.T) {
	for _, l := range append(eachShape(), wide()) {
		may(t, l, true)
		for i, c := range l.Chains {
			for j, was := range c {
				for k, other := range l.Chains {
					for m, unit := range other {
						c[j] = unit
						may(t, l, i == k && j == m)
						c[j] = was
					}
				}
			}
		}
	}
}

// P20.1: all layouts that may be, but for their epochs.
func TestMayAll(t *testing.T) {
	n := 0
	for _, shape := range allShapes() {
		for _, units := range allOrders(sumOf(shape)) {
			may(t, of(cut(shape, units)...), true)
			n++
		}
	}
	if n != 29706 {
		t.Errorf("%d layouts", n)
	}
}

// P20.1: all of one or two chains of up to two units from -1 to MaxUnits.
func TestMaySmall(t *testing.T) {
	all := [][]int{nil}
	for u := -1; u <= api.MaxUnits; u++ {
		all = append(all, chain(u))
		for v := -1; v <= api.MaxUnits; v++ {
			all = append(all, chain(u, v))
		}
	}
	for _, a := range all {
		may(t, of(a), modelMay(of(a)))
		for _, b := range all {
			may(t, of(a, b), modelMay(of(a, b)))
		}
	}
}

// P20.1: layouts that may be, bent.
func TestMayBent(t *testing.T) {
	random := rand.New(rand.NewSource(201))
	n := map[bool]int{}
	for range 20000 {
		l := randomLayout(random)
		may(t, l, true)
		for range 1 + random.Intn(2) {
			if len(l.Chains) > 0 && !slices.ContainsFunc(l.Chains, func(c []int) bool { return len(c) == 0 }) {
				l = bent(random, l)
			}
		}
		may(t, l, modelMay(l))
		n[modelMay(l)]++
	}
	if n[true] < 2000 || n[false] < 2000 {
		t.Errorf("bent layouts: %v", n)
	}
}

// P20.1: a layout that may not be is told ahead of all else.
func TestFormFirst(t *testing.T) {
	for _, l := range refused() {
		for _, n := range []int{-1, 0, 1, api.MaxUnits - 1, api.MaxUnits, api.MaxAddr, 1 << 62} {
			placed(t, l, n, 0, 0, api.ErrForm)
			for _, m := range []int{-1, 0, 1, api.MaxUnits - 1, api.MaxUnits, api.MaxAddr, 1 << 62} {
				posed(t, l, n, m, 0, api.ErrForm)
				swapRefused(t, l, n, m, api.ErrForm)
			}
		}
		for _, tails := range [][]int{nil, {}, {0}, {-1}, {65}, {1, 2}, {-1, 65, 3}, make([]int, len(l.Chains)), slices.Repeat([]int{-1}, len(l.Chains)), slices.Repeat([]int{65}, len(l.Chains)), make([]int, len(l.Chains)+1)} {
			tailed(t, l, tails, 0, api.ErrForm)
		}
	}
}
