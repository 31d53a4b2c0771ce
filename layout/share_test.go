package layout

import (
	"bytes"
	"cmp"
	"fmt"
	"math/rand"
	"reflect"
	"slices"
	"testing"

	"commonhold/api"
)

// roomy: a copy with others behind it, in its spare room.
func roomy[T any](l []T, spare ...T) []T {
	return slices.Concat(l, spare, spare)[:len(l)]
}

// roomyLayout: a copy whose lists share nothing, and have spare room with more chains.
func roomyLayout(l api.Layout) api.Layout {
	l.Chains = roomy(l.Chains, chain(0), chain(4, 1))
	all := l.Chains[:cap(l.Chains)]
	for i, c := range all {
		all[i] = roomy(c, 2, -7, 5)
	}
	return l
}

// onePiece: a copy whose chains are pieces of one list, each behind the other, so that the spare room of each is the next one.
func onePiece(l api.Layout) api.Layout {
	all := slices.Concat(l.Chains...)
	made := api.Layout{Epoch: l.Epoch}
	for _, c := range l.Chains {
		made.Chains = append(made.Chains, all[:len(c)])
		all = all[len(c):]
	}
	return made
}

// whole: a layout with all that its lists have, spare room too, as a text.
func whole(l api.Layout) string {
	var b bytes.Buffer
	fmt.Fprint(&b, l.Epoch, len(l.Chains))
	for _, c := range l.Chains[:cap(l.Chains)] {
		fmt.Fprint(&b, " ", c == nil, len(c), c[:cap(c)])
	}
	return b.String()
}

func wholeList(l []int) string { return fmt.Sprint(l == nil, len(l), l[:cap(l)]) }

// stretch: where the memory of a list begins and ends, its spare room counted.
type stretch struct{ low, high uintptr }

func stretchOf[T any](l []T) stretch {
	v := reflect.ValueOf(l)
	return stretch{v.Pointer(), v.Pointer() + uintptr(v.Cap())*v.Type().Elem().Size()}
}

func ofLayout(l api.Layout) []stretch {
	found := []stretch{stretchOf(l.Chains)}
	for _, c := range l.Chains[:cap(l.Chains)] {
		found = append(found, stretchOf(c))
	}
	return found
}

// sharing: whether two of these have memory in common. What has none stands nowhere.
func sharing(l ...[]stretch) bool {
	all := slices.DeleteFunc(slices.Concat(l...), func(s stretch) bool { return s.low == s.high })
	slices.SortFunc(all, func(a, b stretch) int { return cmp.Compare(a.low, b.low) })
	for i := 1; i < len(all); i++ {
		if all[i-1].high > all[i].low {
			return true
		}
	}
	return false
}

// The checks themselves find what they are there for.
func TestChecks(t *testing.T) {
	l, other := roomyLayout(of(chain(0, 3), chain(1))), of(chain(0, 3), chain(1))
	if sharing(ofLayout(l), ofLayout(other)) {
		t.Error("memory is shared where none is")
	}
	if !sharing(ofLayout(onePiece(l))) {
		t.Error("no memory is shared where all is")
	}
	for i, more := range []api.Layout{
		{Chains: l.Chains}, {Chains: l.Chains[1:]}, {Chains: l.Chains[2:4][1:]}, of(l.Chains[0]), of(l.Chains[0][:3][2:]), of(chain(0), l.Chains[1]), of(l.Chains[:3][2]), of(other.Chains[1]), other,
	} {
		if !sharing(ofLayout(l), ofLayout(other), ofLayout(more)) {
			t.Errorf("example %d shares memory", i)
		}
	}
	for i, change := range []func(){
		func() { l.Epoch++ }, func() { l.Chains[0][1]++ }, func() { l.Chains[0][:3][2]++ }, func() { l.Chains[:3][2][0]++ }, func() { l.Chains[:3][2] = nil }, func() { l.Chains[1] = chain() }, func() { l.Chains = l.Chains[:1] },
	} {
		was := whole(l)
		if change(); whole(l) == was {
			t.Errorf("change %d: all is as it was", i)
		}
	}
	if wholeList(nil) == wholeList([]int{}) || wholeList(roomy(chain(1), 2)) == wholeList(roomy(chain(1), 3)) || !slices.Equal(roomy(chain(1), 2), chain(1)) {
		t.Error("lists are told as one that are not")
	}
}

// checkShares: that calls leave what was handed in as it was, and that their answers share nothing.
func checkShares(t *testing.T, l api.Layout, tails []int, old, next int) {
	t.Helper()
	was, tailsWere := whole(l), wholeList(tails)
	May(l)
	Place(l, next)
	Pos(l, old, next)
	Tail(l, tails)
	first, _ := Swap(l, old, next)
	again, _ := Swap(l, old, next)
	if whole(l) != was || wholeList(tails) != tailsWere {
		t.Fatalf("%v %v %d %d: what was handed in is changed", l, tails, old, next)
	}
	in := []stretch{stretchOf(l.Chains)}
	for _, c := range l.Chains[:cap(l.Chains)] {
		if sharing(ofLayout(first), ofLayout(again), []stretch{stretchOf(c)}) {
			t.Fatalf("Swap(%v, %d, %d): memory is shared", l, old, next)
		}
	}
	if sharing(ofLayout(first), ofLayout(again), in, []stretch{stretchOf(tails)}) {
		t.Fatalf("Swap(%v, %d, %d): memory is shared", l, old, next)
	}
}

// P20.1, P20.2, P20.3, P20.4: what is handed in stays as it is, and what comes out is new.
func TestShares(t *testing.T) {
	for _, l := range append(eachShape(), append(refused(), wide())...) {
		for old := -1; old <= api.MaxUnits; old++ {
			for next := -1; next <= api.MaxUnits; next++ {
				tails := roomy(slices.Repeat(chain(next), len(l.Chains)), 9)
				checkShares(t, roomyLayout(l), tails, old, next)
				checkShares(t, onePiece(l), tails, old, next)
			}
		}
	}
	random := rand.New(rand.NewSource(205))
	for range 5000 {
		l := randomLayout(random)
		if random.Intn(4) == 0 {
			l = bent(random, l)
		}
		checkShares(t, roomyLayout(l), roomy(random.Perm(len(l.Chains)), 9), random.Intn(6), random.Intn(6))
	}
}

// P20.4: one list that is two chains is refused, and nothing of it is kept.
func TestSharesOneListTwice(t *testing.T) {
	c := roomy(chain(2), 3)
	may(t, of(c, c), false)
	checkShares(t, of(c, c), nil, 2, 3)
	may(t, of(c, c[1:2]), true)
	checkShares(t, of(c, c[1:2]), nil, 2, 4)
	swappedTo(t, of(c, c[1:2]), 2, 4, in(1, chain(4), chain(3)))
	swappedTo(t, of(c, c[1:2]), 3, 4, in(1, chain(2), chain(4)))
}

// spoil writes over all of a layout's memory.
func spoil(l api.Layout) {
	for _, c := range l.Chains[:cap(l.Chains)] {
		c = c[:cap(c)]
		for i := range c {
			c[i] -= 1000
		}
	}
	clear(l.Chains[:cap(l.Chains)])
}

// What was answered stays when what was handed in is written over, and the other way round.
func TestAnswersStay(t *testing.T) {
	for _, l := range eachShape() {
		for old := range api.MaxUnits {
			for next := range api.MaxUnits {
				want, e := modelSwap(l, old, next)
				if e != api.OK {
					continue
				}
				given := roomyLayout(l)
				first, _ := Swap(given, old, next)
				again, _ := Swap(given, old, next)
				spoil(first)
				swappedTo(t, given, old, next, want)
				spoil(given)
				if !sameLayout(again, want) {
					t.Errorf("Swap(%v, %d, %d): the answer has changed to %v", l, old, next, again)
				}
			}
		}
	}
}
