package chain

import (
	"math/rand"
	"slices"
	"testing"

	"commonhold/api"
)

// playRefused: that a play is.
func playRefused(t *testing.T, l api.Layout, as []api.Act, want api.Errno) {
	t.Helper()
	if got, code := Play(l, as); code != want || len(got) != 0 {
		t.Errorf("Play(%v, %d acts): %s, %d; want %d", l, len(as), brief(got), code, want)
	}
}

// many: so many acts, each of which is refused or not.
func many(n int) []api.Act {
	return slices.Repeat(acts(write(0, "a"), step(0), step(1), renew()), n/4+1)[:n]
}

// P22.1: a layout that may not be, also where there are too many acts.
func TestForm(t *testing.T) {
	for _, l := range refused() {
		for _, n := range []int{0, 1, 7, api.MaxPlay, api.MaxPlay + 1, 1000} {
			playRefused(t, l, many(n), api.ErrForm)
		}
	}
}

// P22.1: as many acts as may be, and one more.
func TestSize(t *testing.T) {
	for _, l := range layouts() {
		for _, n := range []int{0, 1, 2, api.MaxPlay - 1, api.MaxPlay} {
			checkModel(t, l, many(n))
			if told, code := Play(l, many(n)); len(told) != n || code != api.OK {
				t.Errorf("Play(%v, %d acts): %d lines, %d", l, n, len(told), code)
			}
		}
		playRefused(t, l, many(api.MaxPlay+1), api.ErrSize)
		playRefused(t, l, make([]api.Act, 5000), api.ErrSize)
		plays(t, l, nil)
		plays(t, l, acts())
	}
}

// P22.1: a Kind that there is not, told ahead of a Who that there is not; nothing comes of it.
func TestKind(t *testing.T) {
	for _, kind := range append(odd(), 0, api.Renew+1, api.Renew+2, 1<<32+1) {
		for _, who := range append(odd(), 0, 3, 4) {
			for _, addr := range []int{-1, 0, 64} {
				wrong := api.Act{Kind: kind, Who: who, Addr: addr, Data: make([]byte, 4001)}
				plays(t, one(2), acts(wrong), coded(api.ErrKind))
				tell(t, one(2)).write(0, "a", 0).refuses(api.ErrKind, wrong).steps(0, 1).refuses(api.ErrKind, wrong, wrong).wrote(0, 0).idle(0).refuses(api.ErrKind, wrong).write(0, "b", 1).end()
			}
		}
	}
}

// P22.1: all is unwritten at first, each position of each layout, and the counter is 0.
func TestAtFirst(t *testing.T) {
	for _, l := range layouts() {
		for from := 0; from < size(l); from += 100 {
			s := tell(t, l)
			for pos := from; pos < min(from+100, size(l)); pos++ {
				s.readsNone(pos%4, pos)
			}
			s.written(0, "a", 0).end()
		}
	}
}

// P22.1: the layout's epoch is that of the units, and of the log.
func TestEpochs(t *testing.T) {
	for _, epoch := range []int{0, 1, 2, 65, api.MaxEpoch - 1, api.MaxEpoch} {
		for _, l := range layouts() {
			l.Epoch = epoch
			s := tell(t, l)
			for pos := range 6 {
				s.written(1, "a", pos).reads(2, pos, "a").mended(3, pos, "a").junked(0, pos+6)
			}
			s.end()
		}
	}
}

// P22.1: a position is a slot of its own: what is written there is nowhere else.
func TestSlots(t *testing.T) {
	for _, l := range layouts() {
		last := size(l) - 1
		for pos := range size(l) {
			s := tell(t, l).junked(0, pos)
			for _, other := range []int{0, pos - 1, pos + 1, pos - len(l.Chains), pos + len(l.Chains), pos ^ 1, pos ^ 64, last - pos, last} {
				if other != pos && other >= 0 && other <= last {
					s.readsNone(1, other)
				}
			}
			s.readsJunk(2, pos).end()
		}
	}
}

// P22.1: all positions at once, each with something else.
func TestAllSlots(t *testing.T) {
	for n := 1; n <= 3; n++ {
		s := tell(t, one(n))
		for pos := range 64 {
			s.written(pos%4, string(rune('0'+pos)), pos)
		}
		s.again().refuses(api.ErrFull, write(0, "a")).end()
		for pos := range 64 {
			s.reads(pos%3, pos, string(rune('0'+pos)))
		}
		s.end()
	}
}

// P22.1: clients work each by itself.
func TestClients(t *testing.T) {
	for _, l := range layouts() {
		s := tell(t, l).write(0, "a", 0).write(1, "b", 1).read(2, 0).mend(3, 2).gotNone(2, 0).read(2, 1)
		for who, pos := range []int{0, 1, 0, 2} {
			if who != 2 {
				s.steps(who, s.along(pos))
			}
		}
		s.gotNone(2, 1).wrote(0, 0).wrote(1, 1).gotJunk(3, 2).idle(0, 1, 2, 3).reads(3, 0, "a").reads(2, 1, "b").readsJunk(0, 2).end()
	}
}

// P22.1: what a kind does not name of its act is not asked.
func TestNotAsked(t *testing.T) {
	for _, n := range append(odd(), 0, 1, 2, 3, 4, 63, 64) {
		data := make([]byte, 4001)
		plays(t, one(2), acts(
			api.Act{Kind: api.Append, Addr: n, Data: []byte("a")}, api.Act{Kind: api.Step, Addr: n, Data: data}, api.Act{Kind: api.Renew, Who: n, Addr: n, Data: data},
			api.Act{Kind: api.Read, Who: 1, Data: data}, step(1), api.Act{Kind: api.Mend, Who: 1, Data: data}, step(1), step(1), api.Act{Kind: api.Stop, Addr: n, Data: data}, step(0), api.Act{Kind: api.Stop, Who: 3, Addr: n, Data: data},
		), api.Line{}, api.Line{}, api.Line{},
			api.Line{}, api.Line{Code: api.ErrUnwritten, Done: true}, api.Line{}, api.Line{}, api.Line{Done: true, Data: []byte("a")}, api.Line{}, coded(api.ErrState), api.Line{})
	}
}

// P22.1: acts of clients who get in each other's way, all layouts.
func TestPlayRandom(t *testing.T) {
	random := rand.New(rand.NewSource(221))
	told := map[string]int{}
	for i := range 6000 {
		l := layouts()[i%9]
		if random.Intn(2) == 0 {
			l.Epoch = random.Intn(5)
		}
		as := randomActs(random, l, 1+random.Intn(1+i%api.MaxPlay))
		want := modelPlay(l, as)
		checkPlay(t, l, as, want)
		for _, line := range want {
			line.Addr, line.Data = 0, nil
			told[brief(line)]++
		}
	}
	for _, line := range []api.Line{{Done: true}, {Done: true, Junk: true}, {Done: true, Code: api.ErrUnwritten}, {Done: true, Code: api.ErrFull}, {Code: api.ErrFull}, {Code: api.ErrSize}, {Code: api.ErrRange}, {Code: api.ErrState}, {Code: api.ErrKind}} {
		if n := told[brief(line)]; n < 200 {
			t.Errorf("%v is told %d times", line, n)
		}
	}
}

// eachRow: all rows of n acts, of these.
func eachRow(all []api.Act, n int, check func(as []api.Act)) {
	as := make([]api.Act, n)
	var fill func(at int)
	fill = func(at int) {
		if at == n {
			check(as)
			return
		}
		for _, as[at] = range all {
			fill(at + 1)
		}
	}
	fill(0)
}

// P22.1: all of a few acts, one behind the other, of two clients at two positions.
func TestPlayAll(t *testing.T) {
	all := acts(renew(), write(0, "a"), read(0, 0), mend(0, 0), step(0), stop(0), write(1, "b"), mend(1, 0), mend(1, 1), step(1))
	for _, l := range []api.Layout{one(1), one(2), in(2, units(1), units(0, 2))} {
		eachRow(all, 5, func(as []api.Act) { checkModel(t, l, as) })
	}
}
