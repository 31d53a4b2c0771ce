package layout

import (
	"math/rand"
	"testing"

	"commonhold/api"
)

// P20.4: at the head of a chain, in its middle and at its end.
func TestSwap(t *testing.T) {
	swappedTo(t, in(4, chain(0, 3), chain(1), chain(2)), 3, 5, in(5, chain(0, 5), chain(1), chain(2)))
	l := in(7, chain(4), chain(1, 3, 0))
	swappedTo(t, l, 1, 2, in(8, chain(4), chain(2, 3, 0)))
	swappedTo(t, l, 3, 2, in(8, chain(4), chain(1, 2, 0)))
	swappedTo(t, l, 0, 5, in(8, chain(4), chain(1, 3, 5)))
	swappedTo(t, l, 4, 5, in(8, chain(5), chain(1, 3, 0)))
	swappedTo(t, of(chain(0)), 0, api.MaxUnits-1, in(1, chain(api.MaxUnits-1)))
	swappedTo(t, of(chain(api.MaxUnits-1)), api.MaxUnits-1, 0, in(1, chain(0)))
}

// P20.4: what is refused.
func TestSwapRefused(t *testing.T) {
	l := in(7, chain(4), chain(1, 3, 0))
	for _, next := range odd() {
		if next < 0 || next >= api.MaxUnits {
			swapRefused(t, l, 4, next, api.ErrRange)
		}
	}
	for _, old := range []int{-1, 2, 5, api.MaxUnits, 1 << 62, -1 << 63} {
		swapRefused(t, l, old, 5, api.ErrNone)
		swapRefused(t, l, old, 2, api.ErrNone)
	}
	swapRefused(t, l, 1, 3, api.ErrTwice)
	swapRefused(t, l, 3, 1, api.ErrTwice)
	swapRefused(t, l, 1, 4, api.ErrTwice)
	swapRefused(t, l, 4, 1, api.ErrTwice)
	swapRefused(t, l, 4, 4, api.ErrTwice)
	swapRefused(t, l, 1, 1, api.ErrTwice)
	for u := range api.MaxUnits {
		for v := range api.MaxUnits {
			swapRefused(t, wide(), u, v, api.ErrTwice)
		}
	}
}

// P20.4: there is no epoch behind MaxEpoch.
func TestSwapEpochs(t *testing.T) {
	for _, epoch := range []int{0, 1, 2, 999, api.MaxEpoch - 2, api.MaxEpoch - 1} {
		swappedTo(t, in(epoch, chain(4), chain(1, 3, 0)), 3, 5, in(epoch+1, chain(4), chain(1, 5, 0)))
	}
	swapRefused(t, in(api.MaxEpoch, chain(4), chain(1, 3, 0)), 3, 5, api.ErrOver)
	swapRefused(t, in(api.MaxEpoch, chain(4)), 4, 0, api.ErrOver)
}

// P20.4: several of these together: the one named first is told.
func TestSwapFirst(t *testing.T) {
	for _, epoch := range []int{0, api.MaxEpoch - 1, api.MaxEpoch} {
		l := in(epoch, chain(4), chain(1, 3, 0))
		for _, next := range []int{-1, api.MaxUnits} {
			for _, old := range []int{-1, api.MaxUnits, 2, 3, next} {
				swapRefused(t, l, old, next, api.ErrRange)
			}
		}
		for _, old := range []int{-1, 2, 5, api.MaxUnits} {
			for _, next := range []int{0, 1, 2, 3, 4, 5} {
				swapRefused(t, l, old, next, api.ErrNone)
			}
		}
		for _, old := range []int{0, 1, 3, 4} {
			for _, next := range []int{0, 1, 3, 4} {
				swapRefused(t, l, old, next, api.ErrTwice)
			}
		}
	}
}

func swapsAsModel(t *testing.T, l api.Layout, old, next int) {
	t.Helper()
	want, e := modelSwap(l, old, next)
	if e != api.OK {
		swapRefused(t, l, old, next, e)
		return
	}
	swappedTo(t, l, old, next, want)
}

// P20.4: all units and numbers next to them, in layouts of all shapes and of the telling epochs.
func TestSwapAll(t *testing.T) {
	for _, l := range append(eachShape(), append(refused(), wide())...) {
		for _, epoch := range []int{-1, 0, 41, api.MaxEpoch - 1, api.MaxEpoch, api.MaxEpoch + 1} {
			l.Epoch = epoch
			for old := -1; old <= api.MaxUnits; old++ {
				for next := -1; next <= api.MaxUnits; next++ {
					swapsAsModel(t, l, old, next)
				}
			}
		}
	}
}

// P20.4: any layouts, and odd numbers.
func TestSwapRandom(t *testing.T) {
	random := rand.New(rand.NewSource(204))
	n := map[api.Errno]int{}
	for range 20000 {
		l := randomLayout(random)
		if random.Intn(8) == 0 {
			l = bent(random, l)
		}
		old, next := random.Intn(8)-1, random.Intn(8)-1
		if random.Intn(8) == 0 {
			old, next = pick(random, old, pick(random, odd()...)), pick(random, next, pick(random, odd()...))
		}
		swapsAsModel(t, l, old, next)
		_, e := modelSwap(l, old, next)
		n[e]++
	}
	for _, e := range []api.Errno{api.OK, api.ErrForm, api.ErrRange, api.ErrNone, api.ErrTwice, api.ErrOver} {
		if n[e] < 100 {
			t.Errorf("answers: %v", n)
		}
	}
}

// P20.4: what comes out may be, and swapped back is what it was, two epochs on.
func TestSwapBack(t *testing.T) {
	for _, l := range eachShape() {
		for u := range api.MaxUnits {
			for v := range api.MaxUnits {
				made, e := Swap(l, u, v)
				if e != api.OK {
					continue
				}
				may(t, made, true)
				swappedTo(t, made, v, u, api.Layout{Epoch: l.Epoch + 2, Chains: l.Chains})
				swapRefused(t, made, u, v, api.ErrNone)
			}
		}
	}
}
