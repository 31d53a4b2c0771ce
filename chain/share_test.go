package chain

import (
	"bytes"
	"cmp"
	"fmt"
	"math/rand"
	"reflect"
	"slices"
	"testing"

	"commonhold/api"
)

// roomy: a copy with others behind it, in its spare room.
func roomy[T any](l []T, spare T) []T {
	kept := slices.Concat(l, []T{spare, spare, spare})
	return kept[:len(l)]
}

// roomyActs: a copy whose lists share nothing, and have spare room.
func roomyActs(l []api.Act) []api.Act {
	l = roomy(l, write(1, "spare"))
	for i, a := range l[:cap(l)] {
		l[:cap(l)][i].Data = roomy(a.Data, 1)
	}
	return l
}

// roomyLayout: a copy whose lists share nothing, and have spare room.
func roomyLayout(l api.Layout) api.Layout {
	l.Chains = roomy(l.Chains, units(3, 2))
	for i, c := range l.Chains[:cap(l.Chains)] {
		l.Chains[:cap(l.Chains)][i] = roomy(c, 5)
	}
	return l
}

// whole: what is handed in, with all that its lists have, spare room too, as a text.
func whole(l api.Layout, as []api.Act) string {
	var b bytes.Buffer
	fmt.Fprint(&b, l.Epoch, len(l.Chains), l.Chains == nil, ";")
	for _, c := range l.Chains[:cap(l.Chains)] {
		fmt.Fprint(&b, len(c), c[:cap(c)], ";")
	}
	fmt.Fprint(&b, len(as), as == nil, ";")
	for _, a := range as[:cap(as)] {
		fmt.Fprint(&b, a.Kind, a.Who, a.Addr, len(a.Data), a.Data[:cap(a.Data)], ";")
	}
	return b.String()
}

// stretch: where the memory of a list begins and ends, its spare room counted.
type stretch struct{ low, high uintptr }

func stretchOf[T any](l []T) stretch {
	v := reflect.ValueOf(l)
	return stretch{v.Pointer(), v.Pointer() + uintptr(v.Cap())*v.Type().Elem().Size()}
}

// ofGiven: the memory of what is handed in.
func ofGiven(l api.Layout, as []api.Act) []stretch {
	found := []stretch{stretchOf(l.Chains), stretchOf(as)}
	for _, c := range l.Chains[:cap(l.Chains)] {
		found = append(found, stretchOf(c))
	}
	for _, a := range as[:cap(as)] {
		found = append(found, stretchOf(a.Data))
	}
	return found
}

// ofLines: the memory of an answer.
func ofLines(l []api.Line) []stretch {
	found := []stretch{stretchOf(l)}
	for _, line := range l[:cap(l)] {
		found = append(found, stretchOf(line.Data))
	}
	return found
}

// sharing: whether two of these have memory in common. What has none stands nowhere.
func sharing(l ...[]stretch) bool {
	all := slices.DeleteFunc(slices.Concat(l...), func(s stretch) bool { return s.low == s.high })
	slices.SortFunc(all, func(a, b stretch) int { return cmp.Compare(a.low, b.low) })
	for i := 1; i < len(all); i++ {
		if all[i-1].high > all[i].low {
			return true
		}
	}
	return false
}

// The checks themselves find what they are there for.
func TestChecks(t *testing.T) {
	l, as := roomyLayout(three()), roomyActs(acts(write(0, "a"), write(1, "bc"), step(0)))
	told := lines(api.Line{Data: []byte("a")}, api.Line{Data: []byte("bc")})
	if sharing(ofGiven(l, as), ofLines(told)) {
		t.Error("memory is shared where none is")
	}
	for i, other := range [][]api.Line{
		{{Data: as[0].Data}}, {{Data: as[1].Data[1:]}}, {{Data: as[1].Data[2:3]}}, {{Data: as[1].Data[:1]}}, {told[0]}, lines(api.Line{}, told[0])[:1], told[1:],
	} {
		if !sharing(ofGiven(l, as), ofLines(told), ofLines(other)) {
			t.Errorf("example %d shares memory", i)
		}
	}
	for i, change := range []func(){
		func() { l.Epoch++ }, func() { l.Chains[2][2]++ }, func() { l.Chains[0][:2][1]++ }, func() { l.Chains[:4][3][0]++ }, func() { l.Chains[:5][4] = nil }, func() { l.Chains = l.Chains[:2] }, func() { l.Chains[1] = l.Chains[1][:1] },
		func() { as[0].Kind++ }, func() { as[0].Addr++ }, func() { as[1].Who++ }, func() { as[1].Data[1]++ }, func() { as[1].Data[:3][2]++ }, func() { as[:4][3].Addr++ }, func() { as[:5][4].Data[0]++ }, func() { as[0].Data = nil }, func() { as = as[:1] },
	} {
		was := whole(l, as)
		if change(); whole(l, as) == was {
			t.Errorf("change %d: all is as it was", i)
		}
	}
	if same(api.Line{}, api.Line{Code: 1}) || same(api.Line{}, api.Line{Done: true}) || same(api.Line{}, api.Line{Addr: 1}) || same(api.Line{}, api.Line{Junk: true}) || same(api.Line{}, api.Line{Data: []byte{0}}) || !same(api.Line{}, api.Line{Data: []byte{}}) {
		t.Error("lines are told apart wrongly")
	}
}

// checkShares: that a play leaves what was handed in as it was, and that its answers share nothing.
func checkShares(t *testing.T, l api.Layout, as []api.Act) {
	t.Helper()
	l, as = roomyLayout(l), roomyActs(as)
	was := whole(l, as)
	first, _ := Play(l, as)
	again, _ := Play(l, as)
	if whole(l, as) != was {
		t.Fatalf("Play(%v, %s): what was handed in is changed", l, brief(as))
	}
	if sharing(ofGiven(l, as), ofLines(first), ofLines(again)) {
		t.Fatalf("Play(%v, %s): memory is shared", l, brief(as))
	}
}

// often: the same position read, and mended, more than once, with works that stand in the middle, or are stopped there.
func often(data string) []api.Act {
	return acts(write(0, data), step(0), mend(1, 0), step(1), step(1), step(1), step(0), step(0), read(2, 0), step(2), read(2, 0), step(2), mend(3, 0), step(3), step(3), step(3), mend(3, 0), step(3), renew(), step(3), step(3), step(3), mend(2, 0), step(2), stop(2), mend(2, 0), step(2), step(2), step(2), write(0, data), step(0))
}

// P22.1: what is handed in stays as it is, and what comes out is new.
func TestShares(t *testing.T) {
	for _, l := range slices.Concat(layouts(), refused()) {
		checkShares(t, l, nil)
		checkShares(t, l, many(api.MaxPlay))
		checkShares(t, l, many(api.MaxPlay+1))
		for _, data := range []string{"", "a", "bc", long(31), long(api.MaxBody), long(api.MaxBody + 1)} {
			checkShares(t, l, often(data))
		}
	}
	random := rand.New(rand.NewSource(223))
	for i := range 2000 {
		l := layouts()[i%9]
		checkShares(t, l, randomActs(random, l, random.Intn(80)))
	}
}

// P22.3: one list that is appended twice comes out as two.
func TestSharesOneListTwice(t *testing.T) {
	b := roomy([]byte("both"), 1)
	as := acts(api.Act{Kind: api.Append, Data: b}, step(0), api.Act{Kind: api.Append, Data: b[1:]}, step(0), api.Act{Kind: api.Append, Data: b}, step(0), read(1, 0), step(1), read(1, 1), step(1), mend(1, 2), step(1), mend(2, 0), step(2))
	got, _ := Play(one(1), as)
	if sharing(ofLines(got), []stretch{stretchOf(b)}) {
		t.Error("memory is shared")
	}
	tell(t, one(1)).written(0, "both", 0).written(0, "oth", 1).written(0, "both", 2).reads(1, 0, "both").reads(1, 1, "oth").mended(1, 2, "both").mended(2, 0, "both").end()
	checkModel(t, one(1), as)
}

// spoil writes over all of a list's memory.
func spoil(b []byte) {
	b = b[:cap(b)]
	for i := range b {
		b[i] ^= 85
	}
}

// What was answered stays when what was handed in is written over, and the other way round.
func TestAnswersStay(t *testing.T) {
	for _, data := range []string{"", "a", "bc", long(31), long(api.MaxBody)} {
		for _, l := range layouts() {
			l, as := roomyLayout(l), roomyActs(often(data))
			want := modelPlay(l, as)
			first, _ := Play(l, as)
			if !slices.EqualFunc(first, want, same) {
				t.Errorf("%q: %s; want %s", brief(data), brief(first), brief(want))
			}
			for _, line := range first {
				spoil(line.Data)
			}
			clear(first[:cap(first)])
			again, _ := Play(l, as)
			for _, a := range as {
				spoil(a.Data)
			}
			clear(as[:cap(as)])
			for _, c := range l.Chains {
				clear(c[:cap(c)])
			}
			if !slices.EqualFunc(again, want, same) {
				t.Errorf("what was answered of %q is changed", brief(data))
			}
		}
	}
}
