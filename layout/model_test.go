package layout

import (
	"fmt"
	"math"
	"math/rand"
	"reflect"
	"slices"
	"testing"

	"commonhold/api"
)

func chain(units ...int) []int { return units }

func chains(l ...[]int) [][]int { return l }

// of: a layout of epoch 0.
func of(l ...[]int) api.Layout { return api.Layout{Chains: l} }

// in: a layout of these chains, of an epoch.
func in(epoch int, l ...[]int) api.Layout { return api.Layout{Epoch: epoch, Chains: l} }

// wide: as many chains as may be, of one unit each.
func wide() api.Layout { return of(chain(3), chain(0), chain(5), chain(1), chain(4), chain(2)) }

// odd: numbers at which something begins or ends, or nothing does.
func odd() []int {
	l := []int{math.MinInt64, math.MinInt64 + 1, math.MinInt32, -api.MaxAddr, -2, -1, 0, 1, 2, 3, 4, 5, 6, 7, 63, 64, 65, 127, 128, 129, 383, 384, 385, api.MaxEpoch - 1, api.MaxEpoch, api.MaxEpoch + 1, math.MaxInt32, math.MaxInt64 / 64, math.MaxInt64 - 1, math.MaxInt64}
	return append(l, math.MaxInt64/6, math.MaxInt64/6*6, math.MinInt64/3)
}

// refused: layouts that may not be.
func refused() []api.Layout {
	return []api.Layout{
		{},
		{Chains: chains()},
		in(-1, chain(0)),
		in(math.MinInt64, chain(0)),
		in(api.MaxEpoch+1, chain(0)),
		in(math.MaxInt64, chain(0)),
		in(-1),
		of(nil),
		of(chain()),
		of(chain(0), nil),
		of(nil, chain(0)),
		of(chain(0), chain(), chain(1)),
		of(chain(0, 1, 2, 3)),
		of(chain(0), chain(1, 2, 3, 4)),
		of(chain(-1)),
		of(chain(api.MaxUnits)),
		of(chain(0, 1, -1)),
		of(chain(0), chain(1, api.MaxUnits)),
		of(chain(math.MinInt64)),
		of(chain(math.MaxInt64)),
		of(chain(2, 2)),
		of(chain(2, 1, 2)),
		of(chain(2), chain(2)),
		of(chain(0, 2), chain(1), chain(4, 3, 2)),
		of(chain(0), chain(1), chain(2), chain(3), chain(4), chain(5), chain(0)),
		of(chain(0), chain(1), chain(2), chain(3), chain(4), chain(5), nil),
		of(chain(0), chain(1), chain(2), chain(3), chain(4), chain(5), chain(6)),
	}
}

// modelMay: P20.1 by its words.
func modelMay(l api.Layout) bool {
	all := slices.Concat(l.Chains...)
	for _, c := range l.Chains {
		if len(c) == 0 || len(c) > 3 {
			return false
		}
	}
	slices.Sort(all)
	if len(all) == 0 || len(slices.Compact(slices.Clone(all))) != len(all) {
		return false
	}
	return 0 <= all[0] && all[len(all)-1] <= 5 && len(l.Chains) <= 6 && 0 <= l.Epoch && l.Epoch <= 1000000
}

// place: where a position is.
type place struct{ chain, addr int }

// places: those of all positions, by their position: round the chains, one each, and then on to the next address.
func places(l api.Layout) []place {
	var all []place
	for addr := range 64 {
		for c := range l.Chains {
			all = append(all, place{c, addr})
		}
	}
	return all
}

// modelTail: P20.3 by its words.
func modelTail(l api.Layout, tails []int) (int, api.Errno) {
	switch {
	case !modelMay(l):
		return 0, api.ErrForm
	case len(tails) != len(l.Chains):
		return 0, api.ErrSize
	case slices.Min(tails) < 0 || slices.Max(tails) > 64:
		return 0, api.ErrRange
	}
	tail := 0
	for pos, at := range places(l) {
		if at.addr < tails[at.chain] {
			tail = pos + 1
		}
	}
	return tail, api.OK
}

// modelSwap: P20.4 by its words.
func modelSwap(l api.Layout, old, next int) (api.Layout, api.Errno) {
	all := slices.Concat(l.Chains...)
	switch {
	case !modelMay(l):
		return api.Layout{}, api.ErrForm
	case next < 0 || next > 5:
		return api.Layout{}, api.ErrRange
	case !slices.Contains(all, old):
		return api.Layout{}, api.ErrNone
	case slices.Contains(all, next):
		return api.Layout{}, api.ErrTwice
	case l.Epoch == 1000000:
		return api.Layout{}, api.ErrOver
	}
	made := api.Layout{Epoch: l.Epoch + 1}
	for _, c := range l.Chains {
		c = slices.Clone(c)
		if at := slices.Index(c, old); at >= 0 {
			c[at] = next
		}
		made.Chains = append(made.Chains, c)
	}
	return made, api.OK
}

// sameLayout: whether two have the same epoch, and the same units in the same places.
func sameLayout(a, b api.Layout) bool {
	return a.Epoch == b.Epoch && slices.EqualFunc(a.Chains, b.Chains, slices.Equal)
}

func placed(t *testing.T, l api.Layout, pos, wantChain, wantAddr int, want api.Errno) {
	t.Helper()
	c, addr, e := Place(l, pos)
	if c != wantChain || addr != wantAddr || e != want {
		t.Errorf("Place(%v, %d): %d %d %d; want %d %d %d", l, pos, c, addr, e, wantChain, wantAddr, want)
	}
}

func posed(t *testing.T, l api.Layout, c, addr, wantPos int, want api.Errno) {
	t.Helper()
	if pos, e := Pos(l, c, addr); pos != wantPos || e != want {
		t.Errorf("Pos(%v, %d, %d): %d %d; want %d %d", l, c, addr, pos, e, wantPos, want)
	}
}

func tailed(t *testing.T, l api.Layout, tails []int, wantTail int, want api.Errno) {
	t.Helper()
	if tail, e := Tail(l, tails); tail != wantTail || e != want {
		t.Errorf("Tail(%v, %v): %d %d; want %d %d", l, tails, tail, e, wantTail, want)
	}
}

func tailedAsModel(t *testing.T, l api.Layout, tails []int) {
	t.Helper()
	tail, e := modelTail(l, tails)
	tailed(t, l, tails, tail, e)
}

func swappedTo(t *testing.T, l api.Layout, old, next int, wantLayout api.Layout) {
	t.Helper()
	if got, e := Swap(l, old, next); !sameLayout(got, wantLayout) || e != api.OK {
		t.Errorf("Swap(%v, %d, %d): %v %d; want %v", l, old, next, got, e, wantLayout)
	}
}

func swapRefused(t *testing.T, l api.Layout, old, next int, want api.Errno) {
	t.Helper()
	if got, e := Swap(l, old, next); e != want || got.Epoch != 0 || len(got.Chains) != 0 {
		t.Errorf("Swap(%v, %d, %d): %v %d; want %d", l, old, next, got, e, want)
	}
}

// allShapes: how many units the chains may have, in all ways.
func allShapes() [][]int {
	var all [][]int
	var grow func(shape []int, left int)
	grow = func(shape []int, left int) {
		if len(shape) > 0 {
			all = append(all, slices.Clone(shape))
		}
		for n := 1; n <= min(3, left); n++ {
			grow(append(shape, n), left-n)
		}
	}
	grow(nil, 6)
	return all
}

// allOrders: the units, so many of them, in all orders.
func allOrders(n int) [][]int {
	if n == 0 {
		return [][]int{nil}
	}
	var all [][]int
	for _, order := range allOrders(n - 1) {
		for u := range 6 {
			if !slices.Contains(order, u) {
				all = append(all, append(slices.Clone(order), u))
			}
		}
	}
	return all
}

// cut: units in chains of that shape.
func cut(shape, units []int) [][]int {
	var l [][]int
	for _, n := range shape {
		l = append(l, slices.Clone(units[:n]))
		units = units[n:]
	}
	return l
}

func sumOf(l []int) int {
	sum := 0
	for _, n := range l {
		sum += n
	}
	return sum
}

// eachShape: a layout of each shape.
func eachShape() []api.Layout {
	var all []api.Layout
	for i, shape := range allShapes() {
		orders := allOrders(sumOf(shape))
		all = append(all, in(i, cut(shape, orders[i*7%len(orders)])...))
	}
	return all
}

// pick: one of these.
func pick[T any](random *rand.Rand, l ...T) T { return l[random.Intn(len(l))] }

// randomLayout: a layout that may be.
func randomLayout(random *rand.Rand) api.Layout {
	shape := pick(random, allShapes()...)
	return in(pick(random, 0, 1, random.Intn(api.MaxEpoch), api.MaxEpoch-1, api.MaxEpoch), cut(shape, random.Perm(6))...)
}

// bent: a layout with something other than it was, so that it often may not be.
func bent(random *rand.Rand, l api.Layout) api.Layout {
	c := random.Intn(len(l.Chains))
	switch random.Intn(6) {
	case 0:
		l.Epoch = pick(random, odd()...)
	case 1:
		l.Chains[c] = append(l.Chains[c], random.Intn(8)-1)
	case 2:
		l.Chains[c] = l.Chains[c][1:]
	case 3:
		l.Chains[c][0] = pick(random, odd()...)
	case 4:
		l.Chains = append(l.Chains, chain(random.Intn(8)-1))
	default:
		l.Chains = slices.Delete(l.Chains, c, c+1)
	}
	return l
}

// The words of the chapter, as the tests take them, hold for its own numbers.
func TestModel(t *testing.T) {
	if n := len(allShapes()); n != 51 {
		t.Errorf("%d shapes", n)
	}
	if n := len(allOrders(6)); n != 720 {
		t.Errorf("%d orders", n)
	}
	for _, l := range refused() {
		if modelMay(l) {
			t.Errorf("%v may be", l)
		}
	}
	for _, l := range append(eachShape(), wide()) {
		if !modelMay(l) {
			t.Errorf("%v may not be", l)
		}
		if all := places(l); len(all) != 64*len(l.Chains) || all[0] != (place{0, 0}) || all[len(l.Chains)] != (place{0, 1}) {
			t.Errorf("%v: %d places", l, len(all))
		}
	}
	if limits := fmt.Sprint(api.MaxUnits, api.MaxChain, api.MaxAddr, api.MaxEpoch); limits != "6 3 64 1000000" {
		t.Errorf("limits %s", limits)
	}
	if !reflect.DeepEqual(cut([]int{2, 1}, []int{4, 0, 3}), chains(chain(4, 0), chain(3))) {
		t.Error("cut")
	}
}
