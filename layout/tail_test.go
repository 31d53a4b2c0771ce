package layout

import (
	"math/rand"
	"slices"
	"testing"

	"commonhold/api"
)

// P20.3: ordinary tails.
func TestTail(t *testing.T) {
	l := in(4, chain(0, 3), chain(1), chain(2))
	tailed(t, l, []int{1, 3, 0}, 8, api.OK)
	tailed(t, l, []int{0, 0, 0}, 0, api.OK)
	tailed(t, l, []int{1, 1, 1}, 3, api.OK)
	tailed(t, l, []int{2, 1, 1}, 4, api.OK)
	tailed(t, l, []int{1, 1, 2}, 6, api.OK)
	tailed(t, l, []int{64, 64, 64}, 192, api.OK)
	tailed(t, of(chain(5)), []int{0}, 0, api.OK)
	tailed(t, of(chain(5)), []int{1}, 1, api.OK)
	tailed(t, of(chain(5)), []int{64}, 64, api.OK)
}

// P20.3: all tails 0, all MaxAddr, and each alone above 0.
func TestTailAlone(t *testing.T) {
	for _, l := range append(eachShape(), wide()) {
		n := len(l.Chains)
		tailed(t, l, make([]int, n), 0, api.OK)
		tailed(t, l, slices.Repeat([]int{api.MaxAddr}, n), n*api.MaxAddr, api.OK)
		for c := range n {
			for tail := 1; tail <= api.MaxAddr; tail++ {
				tails := make([]int, n)
				tails[c] = tail
				tailed(t, l, tails, (tail-1)*n+c+1, api.OK)
			}
		}
	}
}

// P20.3: a longer one behind a shorter one and ahead of it, of all pairs of tails.
func TestTailPairs(t *testing.T) {
	two := of(chain(4, 1), chain(0))
	tailed(t, two, []int{3, 5}, 10, api.OK)
	tailed(t, two, []int{5, 3}, 9, api.OK)
	tailed(t, two, []int{0, 64}, 128, api.OK)
	tailed(t, two, []int{64, 0}, 127, api.OK)
	for a := range api.MaxAddr + 1 {
		for b := range api.MaxAddr + 1 {
			tailedAsModel(t, two, []int{a, b})
		}
	}
}

// P20.3: tails at and near the edges, in every chain.
func TestTailEdges(t *testing.T) {
	for _, l := range []api.Layout{of(chain(2, 1, 0)), of(chain(2), chain(3)), of(chain(5), chain(1, 2, 3), chain(0)), of(chain(5), chain(1, 2), chain(0), chain(4))} {
		tails := make([]int, len(l.Chains))
		var set func(c int)
		set = func(c int) {
			if c == len(tails) {
				tailedAsModel(t, l, tails)
				return
			}
			for _, tails[c] = range []int{-1, 0, 1, 2, 63, 64, 65} {
				set(c + 1)
			}
		}
		set(0)
	}
}

// P20.3: too few tails, too many, and none.
func TestTailSize(t *testing.T) {
	for _, l := range append(eachShape(), wide()) {
		for n := range 10 {
			want := api.ErrSize
			if n == len(l.Chains) {
				want = api.OK
			}
			tailed(t, l, make([]int, n), 0, want)
		}
		tailed(t, l, nil, 0, api.ErrSize)
		tailed(t, l, make([]int, 100000), 0, api.ErrSize)
	}
}

// P20.3: a tail that is not from 0 to MaxAddr is refused, whatever stands beside it; that there are not as many as chains is told ahead of it.
func TestTailRange(t *testing.T) {
	for _, l := range append(eachShape(), wide()) {
		for n := range 9 {
			for at := range n {
				for _, tail := range odd() {
					for _, other := range []int{0, 7, api.MaxAddr} {
						tails := slices.Repeat([]int{other}, n)
						tails[at] = tail
						switch {
						case n != len(l.Chains):
							tailed(t, l, tails, 0, api.ErrSize)
						case tail < 0 || tail > api.MaxAddr:
							tailed(t, l, tails, 0, api.ErrRange)
						default:
							tailedAsModel(t, l, tails)
						}
					}
				}
			}
		}
	}
}

// P20.3: any tails.
func TestTailRandom(t *testing.T) {
	random := rand.New(rand.NewSource(203))
	for range 5000 {
		l := randomLayout(random)
		tails := make([]int, len(l.Chains))
		for c := range tails {
			tails[c] = random.Intn(pick(random, 1, 3, api.MaxAddr+1))
		}
		tailedAsModel(t, l, tails)
	}
}

// P20.3: where positions are written one behind the other, the tail is how many there are.
func TestTailOfWritten(t *testing.T) {
	for _, l := range append(eachShape(), wide()) {
		tails := make([]int, len(l.Chains))
		for pos, at := range places(l) {
			tailed(t, l, tails, pos, api.OK)
			tails[at.chain] = at.addr + 1
		}
		tailed(t, l, tails, len(l.Chains)*64, api.OK)
	}
}
