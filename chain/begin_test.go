package chain

import (
	"math/rand"
	"slices"
	"strings"
	"testing"

	"commonhold/api"
)

// long: data of so many bytes, no two places of which are easily taken for each other.
func long(n int) string { return strings.Repeat("0123456789abcdefghijklmno", n/25+1)[:n] }

// byEach: an act of each kind that names a client.
func byEach(who int) []api.Act {
	return acts(write(who, "x"), read(who, 0), mend(who, 0), step(who), stop(who))
}

// P22.2 to P22.4: clients are from 0 on below MaxHands; another one is told ahead of all else.
func TestWho(t *testing.T) {
	for _, who := range append(odd(), api.MaxHands, api.MaxHands+1) {
		wrong := slices.Concat(byEach(who), acts(write(who, long(api.MaxBody+1)), read(who, -1), mend(who, 640)))
		for _, l := range layouts() {
			tell(t, l).refuses(api.ErrRange, wrong...).written(0, "a", 0).refuses(api.ErrRange, wrong...).reads(1, 0, "a").write(0, "b", 1).end()
		}
		// Also where the counter's position has no place, and where clients are at work.
		tell(t, one(2)).junked(3, 62).renew().write(0, "a", 63).mend(1, 5).refuses(api.ErrRange, wrong...).goesOn(0, 63).steps(1, 1).gotJunk(1, 5).end()
	}
	for who := range api.MaxHands {
		tell(t, three()).write(who, "a", 0).wrote(who, 0).readsNone(who, 1).junked(who, 2).stop(who).idle(0, 1, 2, 3).end()
	}
}

// P22.2: a client that is at work begins nothing, and goes on as it was; no position is taken.
func TestAtWork(t *testing.T) {
	for who := range api.MaxHands {
		wrong := acts(write(who, "x"), write(who, ""), write(who, long(api.MaxBody+1)), read(who, 0), read(who, 1), read(who, -1), read(who, 640), mend(who, 0), mend(who, 1), mend(who, -1), mend(who, 640))
		other := (who + 1) % api.MaxHands
		for _, l := range layouts() {
			s := tell(t, l)
			for pos := range 4 {
				s.again().write(who, "a", pos).refuses(api.ErrState, wrong...).goesOn(who, pos).write(who, "b", pos+1).end()
				s.again().mend(who, pos).refuses(api.ErrState, wrong...).steps(who, s.along(pos)).refuses(api.ErrState, wrong...).gotJunk(who, pos).write(who, "b", pos).end()
				s.again().read(who, pos).refuses(api.ErrState, wrong...).gotNone(who, pos).write(who, "b", pos).end()
				s.written(other, "z", pos)
			}
		}
	}
}

// P22.2: that a client is at work is told ahead of the counter's position having no place.
func TestAtWorkFirst(t *testing.T) {
	for _, l := range renewable() {
		last := size(l) - 1
		wrong := acts(write(0, ""), write(0, "x"), write(0, long(api.MaxBody)), write(0, long(api.MaxBody+1)))
		s := tell(t, l).junked(1, last).renew().mend(0, last).refuses(api.ErrState, wrong...).steps(0, length(l, last)-1).refuses(api.ErrState, wrong...).gotJunk(0, last)
		s.refuses(api.ErrFull, wrong[:3]...).refuses(api.ErrSize, wrong[3:]...).end()
	}
}

// P22.2: a work that stands still, as it was sealed out, is one.
func TestAtWorkSealed(t *testing.T) {
	for _, l := range renewable() {
		wrong := acts(write(0, "x"), read(0, 0), mend(0, 0), read(0, -1), mend(0, 640))
		s := tell(t, l).written(1, "y", 0)
		s.again().read(0, 0).renew().refuses(api.ErrState, wrong...).steps(0, 1).refuses(api.ErrState, wrong...).got(0, 0, "y").end()
		s.again().mend(0, 0).renew().refuses(api.ErrState, wrong...).steps(0, 1).refuses(api.ErrState, wrong...).steps(0, s.along(0)).got(0, 0, "y").end()
		s.again().write(0, "z", 1).renew().refuses(api.ErrState, wrong...).steps(0, 1).refuses(api.ErrState, wrong...).goesOn(0, 1).end()
	}
}

// P22.2: data of none, of as many bytes as may be, and of one more.
func TestAppendSize(t *testing.T) {
	for _, l := range layouts() {
		s := tell(t, l)
		for pos, n := range []int{0, 1, 2, api.MaxBody - 1, api.MaxBody} {
			s.refuses(api.ErrSize, write(0, long(api.MaxBody+1)), write(0, long(api.MaxBody+25)), write(1, long(100000))).idle(0, 1)
			s.written(0, long(n), pos).reads(1, pos, long(n)).mended(2, pos, long(n))
		}
		s.end()
	}
}

// P22.2: data that are too many are told ahead of a position that has no place.
func TestAppendSizeFirst(t *testing.T) {
	tell(t, one(1)).junked(0, 63).renew().refuses(api.ErrSize, write(0, long(api.MaxBody+1))).refuses(api.ErrFull, write(0, long(api.MaxBody)), write(0, "")).idle(0).end()
}

// P22.2: each append that is not refused gets the next position, whoever it is of, and whatever becomes of it.
func TestCounter(t *testing.T) {
	for _, l := range layouts() {
		tell(t, l).
			write(2, "a", 0).write(0, "b", 1).refuses(api.ErrSize, write(1, long(4001))).refuses(api.ErrState, write(0, "c")).write(1, "c", 2).
			stop(0).write(0, "d", 3).goesOn(2, 0).write(2, "e", 4).refuses(api.ErrRange, write(-1, "f"), write(4, "f")).refuses(api.ErrKind, api.Act{Kind: 7}).
			readsNone(3, 5).junked(3, 7).write(3, "f", 5).goesOn(1, 2).write(1, "g", 6).end()
	}
}

// P22.2: the counter at the last position that has a place, and behind it.
func TestFull(t *testing.T) {
	for _, l := range renewable() {
		last := size(l) - 1
		s := tell(t, l).junked(0, last-1).renew()
		s.again().written(0, "a", last).refuses(api.ErrFull, write(0, "b"), write(1, "b")).idle(0, 1).refuses(api.ErrFull, write(0, "b")).reads(0, last, "a").end()
		s.again().write(2, "a", last).refuses(api.ErrFull, write(0, "b")).stop(2).refuses(api.ErrFull, write(2, "b")).readsNone(2, last).renew().write(0, "b", last).end()
		s.again().junked(1, last).renew().refuses(api.ErrFull, write(0, "b")).renew().refuses(api.ErrFull, write(3, "b")).readsJunk(3, last).end()
	}
}

// P22.2: the counter comes to the last position, and to no other one, by appends alone.
func TestFullCounted(t *testing.T) {
	for _, l := range layouts() {
		if size(l) > 200 {
			continue
		}
		s := tell(t, l)
		for pos := range size(l) {
			s.write(pos%4, "a", pos).stop(pos % 4)
		}
		s.refuses(api.ErrFull, write(0, "b"), write(3, "b")).idle(0).end()
	}
}

// P22.2: an Addr that has no place, of each chain, and the last ones that have one.
func TestAddr(t *testing.T) {
	for _, l := range layouts() {
		s := tell(t, l)
		for _, pos := range append(odd(), size(l), size(l)+1, size(l)+len(l.Chains)-1, size(l)+len(l.Chains), 2*size(l), 64*7) {
			s.refuses(api.ErrRange, read(0, pos), mend(0, pos), read(3, pos), mend(3, pos)).idle(0, 3)
		}
		for chain := range l.Chains {
			last := size(l) - len(l.Chains) + chain
			s.readsNone(0, chain, last).junked(1, last).readsJunk(2, last).junked(3, chain).readsJunk(0, chain)
		}
		s.end()
	}
}

// P22.2: reads and mends do not count.
func TestReadMendNotCounted(t *testing.T) {
	for _, l := range layouts() {
		tell(t, l).readsNone(0, 0, 1, 2).junked(1, 9).mend(2, 30).read(3, 0).write(0, "a", 0).end()
	}
}

// P22.2: the epoch that a client knows is the log's when it begins: no unit refuses it.
func TestKnows(t *testing.T) {
	for _, l := range renewable() {
		s := tell(t, l)
		for pos := range 4 {
			s.renew().written(0, "a", pos).reads(1, pos, "a").mended(2, pos, "a").readsNone(3, pos+1)
		}
		s.renew().junked(3, 20).readsJunk(0, 20).end()
	}
}

// P22.2: begins of clients at random, of which most are refused.
func TestBeginRandom(t *testing.T) {
	random := rand.New(rand.NewSource(222))
	for i := range 2000 {
		l := layouts()[i%9]
		var as []api.Act
		for range 60 {
			who := random.Intn(6) - 1
			pos := random.Intn(size(l)+3) - 1
			as = append(as, []api.Act{write(who, "a"), write(who, long(random.Intn(8000))), read(who, pos), mend(who, pos), step(who), step(who), stop(who), oddAct(random, l)}[random.Intn(8)])
		}
		checkModel(t, l, as)
	}
}
