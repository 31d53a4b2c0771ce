package layout

import (
	"math"
	"math/rand"
	"testing"

	"commonhold/api"
)

// P20.2: ordinary positions, and the edges.
func TestPlace(t *testing.T) {
	l := in(4, chain(0, 3), chain(1), chain(2))
	placed(t, l, 0, 0, 0, api.OK)
	placed(t, l, 1, 1, 0, api.OK)
	placed(t, l, 2, 2, 0, api.OK)
	placed(t, l, 3, 0, 1, api.OK)
	placed(t, l, 7, 1, 2, api.OK)
	placed(t, l, 191, 2, 63, api.OK)
	for _, pos := range []int{192, 193, math.MaxInt64, -1, -2, -3, -192, math.MinInt64} {
		placed(t, l, pos, 0, 0, api.ErrRange)
	}
}

// P20.2: layouts of one chain, and of MaxUnits chains.
func TestPlaceEdges(t *testing.T) {
	for _, one := range []api.Layout{of(chain(5)), of(chain(2, 0, 4))} {
		placed(t, one, 0, 0, 0, api.OK)
		placed(t, one, 1, 0, 1, api.OK)
		placed(t, one, api.MaxAddr-1, 0, api.MaxAddr-1, api.OK)
		placed(t, one, api.MaxAddr, 0, 0, api.ErrRange)
	}
	placed(t, wide(), 0, 0, 0, api.OK)
	placed(t, wide(), 5, 5, 0, api.OK)
	placed(t, wide(), 6, 0, 1, api.OK)
	placed(t, wide(), 378, 0, 63, api.OK)
	placed(t, wide(), 383, 5, 63, api.OK)
	placed(t, wide(), 384, 0, 0, api.ErrRange)
	for _, l := range append(eachShape(), wide()) {
		last := len(l.Chains)*api.MaxAddr - 1
		placed(t, l, -1, 0, 0, api.ErrRange)
		placed(t, l, 0, 0, 0, api.OK)
		placed(t, l, last, len(l.Chains)-1, api.MaxAddr-1, api.OK)
		placed(t, l, last+1, 0, 0, api.ErrRange)
		placed(t, l, math.MaxInt64, 0, 0, api.ErrRange)
	}
}

// P20.2: places of chains and addresses, and the edges of both together.
func TestPos(t *testing.T) {
	l := in(4, chain(0, 3), chain(1), chain(2))
	posed(t, l, 0, 0, 0, api.OK)
	posed(t, l, 1, 2, 7, api.OK)
	posed(t, l, 2, 63, 191, api.OK)
	for _, l := range append(eachShape(), wide(), of(chain(0)), of(chain(4, 2, 3))) {
		last := len(l.Chains) - 1
		for _, addr := range []int{-1, api.MaxAddr} {
			for _, c := range []int{-1, 0, last, last + 1} {
				posed(t, l, c, addr, 0, api.ErrRange)
			}
		}
		for _, addr := range []int{0, api.MaxAddr - 1} {
			posed(t, l, -1, addr, 0, api.ErrRange)
			posed(t, l, 0, addr, addr*len(l.Chains), api.OK)
			posed(t, l, last, addr, addr*len(l.Chains)+last, api.OK)
			posed(t, l, last+1, addr, 0, api.ErrRange)
		}
	}
}

// P20.2: Place and Pos turn each other round, at each position of a layout.
func TestRound(t *testing.T) {
	for _, l := range append(eachShape(), wide()) {
		all := places(l)
		for pos, at := range all {
			placed(t, l, pos, at.chain, at.addr, api.OK)
			posed(t, l, at.chain, at.addr, pos, api.OK)
		}
		for pos := -500; pos < 1000; pos++ {
			if pos < 0 || pos >= len(all) {
				placed(t, l, pos, 0, 0, api.ErrRange)
			}
		}
	}
}

// P20.2: chains and addresses near those that there are: each is the one position of that place, or none.
func TestPosNear(t *testing.T) {
	for _, l := range append(eachShape(), wide()) {
		where := map[place]int{}
		for pos, at := range places(l) {
			where[at] = pos
		}
		for c := -2; c < 9; c++ {
			for addr := -2; addr < 67; addr++ {
				if pos, there := where[place{c, addr}]; there {
					posed(t, l, c, addr, pos, api.OK)
				} else {
					posed(t, l, c, addr, 0, api.ErrRange)
				}
			}
		}
	}
}

// P20.2: odd numbers, for each of which something is answered.
func TestPlaceOdd(t *testing.T) {
	for _, l := range append(eachShape(), wide()) {
		all := places(l)
		for _, n := range odd() {
			if n >= 0 && n < len(all) {
				placed(t, l, n, all[n].chain, all[n].addr, api.OK)
			} else {
				placed(t, l, n, 0, 0, api.ErrRange)
			}
			for _, m := range odd() {
				if n < 0 || n >= len(l.Chains) || m < 0 || m >= 64 {
					posed(t, l, n, m, 0, api.ErrRange)
				}
			}
		}
	}
}

// P20.2: neither the epoch nor which units there are tells where a position is.
func TestPlaceHeedsChainsAlone(t *testing.T) {
	random := rand.New(rand.NewSource(202))
	for range 2000 {
		l := randomLayout(random)
		all := places(l)
		pos := random.Intn(len(all))
		placed(t, l, pos, all[pos].chain, all[pos].addr, api.OK)
		posed(t, l, all[pos].chain, all[pos].addr, pos, api.OK)
	}
}
