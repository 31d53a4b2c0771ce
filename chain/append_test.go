package chain

import (
	"testing"

	"commonhold/api"
)

// P22.3: a client that is not at work does no step: at first, behind the end of each work, and behind what was refused.
func TestStepIdle(t *testing.T) {
	for _, l := range layouts() {
		tell(t, l).idle(0, 1, 2, 3).
			written(0, "a", 0).idle(0, 0, 1).
			reads(1, 0, "a").idle(1).
			readsNone(1, 1).idle(1).
			mended(2, 0, "a").idle(2).
			junked(3, 1).idle(3).
			refuses(api.ErrSize, write(0, long(api.MaxBody+1))).idle(0).
			refuses(api.ErrRange, read(1, -1)).idle(1).
			refuses(api.ErrRange, mend(1, size(l))).idle(1).
			write(1, "b", 1).idle(0, 2, 3).end()
	}
}

// P22.3: an append from its beginning to its end, on chains of one, two and three units: it is read as soon as the end has it, and not ahead of that.
func TestAppend(t *testing.T) {
	for n := 1; n <= 3; n++ {
		for _, data := range []string{"", "a", long(api.MaxBody)} {
			s := tell(t, one(n))
			for pos := range 5 {
				s.readsNone(1, pos).write(0, data, pos).readsNone(1, pos)
				for range n - 1 {
					s.steps(0, 1).readsNone(1, pos)
				}
				s.wrote(0, pos).reads(1, pos, data).idle(0)
			}
			s.end()
		}
	}
}

// P22.3: appends on chains of different lengths.
func TestAppendChains(t *testing.T) {
	tell(t, three()).
		write(0, "a", 0).write(1, "b", 1).write(2, "c", 2).write(3, "d", 3).
		steps(2, 2).steps(1, 1).
		wrote(3, 3).wrote(2, 2).wrote(1, 1).wrote(0, 0).
		reads(0, 0, "a").reads(1, 1, "b").reads(2, 2, "c").reads(3, 3, "d").readsNone(0, 4, 5, 6).
		write(1, "e", 4).steps(1, 1).wrote(1, 4).write(1, "f", 5).steps(1, 2).wrote(1, 5).write(1, "g", 6).wrote(1, 6).end()
}

// P22.3: the first step is at the head: what stands there is seen by one who mends, at whatever step the append is.
func TestAppendHeadFirst(t *testing.T) {
	for n := 1; n <= 3; n++ {
		s := tell(t, one(n)).write(0, "a", 0)
		s.again().junked(1, 0).steps(0, 1).goesOn(0, 1).end()
		for range n - 1 {
			s.steps(0, 1)
			s.again().mended(1, 0, "a").end()
		}
		s.wrote(0, 0).mended(1, 0, "a").end()
	}
}

// P22.3: the position has something at the head: the append gets the counter's, as often as that comes to be, and its next step is at the head there.
func TestAppendTaken(t *testing.T) {
	for _, l := range layouts() {
		s := tell(t, l).write(0, "a", 0).junked(1, 0)
		s.again().steps(0, 1).goesOn(0, 1).reads(1, 1, "a").readsJunk(1, 0).write(1, "b", 2).end()
		s.again().written(2, "b", 1).written(2, "c", 2).steps(0, 1).goesOn(0, 3).reads(1, 3, "a").reads(1, 1, "b").write(1, "d", 4).end()
		s.again().junked(1, 1).steps(0, 1).written(2, "b", 2).steps(0, 1).goesOn(0, 3).reads(1, 3, "a").end()
		s.again().steps(0, 1).junked(1, 1).steps(0, 1).junked(1, 2).steps(0, 1).junked(1, 3).junked(1, 4).steps(0, 2).goesOn(0, 5).reads(2, 5, "a").readsJunk(2, 4).end()
	}
}

// P22.3: another one has the position as soon as it has the head.
func TestAppendTakenAtHead(t *testing.T) {
	for n := 2; n <= 3; n++ {
		s := tell(t, one(n)).write(0, "a", 0).mend(1, 0).steps(1, 1)
		s.again().steps(0, 1).goesOn(0, 1).readsNone(2, 0).steps(1, n-2).gotJunk(1, 0).readsJunk(2, 0).reads(2, 1, "a").end()
		s.again().steps(1, n-2).gotJunk(1, 0).steps(0, 1).goesOn(0, 1).readsJunk(2, 0).reads(2, 1, "a").end()
	}
}

// P22.3: an append takes a position on a chain of another length.
func TestAppendTakenChains(t *testing.T) {
	tell(t, three()).write(0, "a", 0).write(1, "b", 1).write(2, "c", 2).junked(3, 0).junked(3, 1).junked(3, 2).
		steps(0, 1).steps(1, 1).steps(2, 1). // positions 3, 4 and 5
		wrote(0, 3).goesOn(1, 4).goesOn(2, 5).reads(3, 3, "a").reads(3, 4, "b").reads(3, 5, "c").
		write(0, "d", 6).junked(3, 6).steps(0, 1).goesOn(0, 7).reads(3, 7, "d").end()
}

// P22.3: elsewhere what was written already is as good: another one has carried on what stands at the head.
func TestAppendHelped(t *testing.T) {
	for n := 2; n <= 3; n++ {
		for at := 1; at < n; at++ {
			// The append stands at so many units, and a mend goes ahead of it by one, or to the end.
			s := tell(t, one(n)).write(0, "a", 0).steps(0, at)
			s.again().mended(1, 0, "a").steps(0, n-1-at).wrote(0, 0).idle(0).reads(2, 0, "a").end()
			s.again().mend(1, 0).steps(1, at).steps(0, n-1-at).wrote(0, 0).reads(2, 0, "a").steps(1, n-1-at).got(1, 0, "a").end()
			s.again().mended(1, 0, "a").mended(2, 0, "a").steps(0, n-1-at).wrote(0, 0).write(0, "b", 1).end()
		}
	}
}

// P22.3: there is no other position: the work has ended.
func TestAppendFull(t *testing.T) {
	for _, l := range renewable() {
		last := size(l) - 1
		s := tell(t, l).junked(3, last-1).renew().write(0, "a", last)
		// Another one has the last position.
		s.again().junked(1, last).full(0).idle(0).refuses(api.ErrFull, write(0, "b")).readsJunk(0, last).end()
		// Sealed out, while another one has the last position.
		s.again().junked(1, last).renew().full(0).idle(0).refuses(api.ErrFull, write(0, "b")).readsJunk(0, last).end()
		s.again().renew().write(1, "b", last).full(0).idle(0).goesOn(1, last).reads(0, last, "b").end()
		// The last but one is taken, the last one gone.
		s = tell(t, l).junked(3, last-2).renew().write(0, "a", last-1).write(1, "b", last).junked(2, last-1)
		s.again().full(0).idle(0).refuses(api.ErrFull, write(2, "c")).goesOn(1, last).end()
		s.again().stop(1).full(0).readsNone(0, last).renew().written(0, "c", last).end()
		// Behind a Renew there is a place again.
		s.again().stop(1).renew().steps(0, 1).goesOn(0, last).reads(1, last, "a").end()
	}
}

// P22.3: a client whose append ended so is free for whatever else.
func TestAppendFullFree(t *testing.T) {
	tell(t, one(2)).junked(3, 62).renew().write(0, "a", 63).junked(1, 63).full(0).readsNone(0, 5).junked(0, 6).readsJunk(0, 63).stop(0).idle(0).end()
}

// P22.3: sealed out at the head: the append gets the counter's position, and knows the epoch.
func TestAppendSealedAtHead(t *testing.T) {
	for _, l := range renewable() {
		s := tell(t, l).write(0, "a", 0).renew()
		s.again().steps(0, 1).goesOn(0, 0).reads(1, 0, "a").write(1, "b", 1).end()
		s.again().write(1, "b", 0).steps(0, 1).goesOn(0, 1).goesOn(1, 0).reads(2, 0, "b").reads(2, 1, "a").end()
		s.again().renew().renew().steps(0, 1).goesOn(0, 0).reads(1, 0, "a").end()
		s.again().steps(0, 1).renew().steps(0, 1).renew().steps(0, 1).goesOn(0, 0).reads(1, 0, "a").write(1, "b", 1).end()
		s.again().written(1, "b", 0).written(1, "c", 1).steps(0, 1).goesOn(0, 2).reads(2, 2, "a").reads(2, 0, "b").end()
		// What there is at the position does not matter, as no unit looks.
		tell(t, l).write(0, "a", 0).junked(1, 0).renew().steps(0, 1).goesOn(0, 1).reads(1, 1, "a").end()
	}
}

// P22.3: two appends get in each other's way through Renew: both have the same position, the one that is sealed out gets another one.
func TestAppendTwo(t *testing.T) {
	for _, l := range renewable() {
		s := tell(t, l).write(0, "a", 0).renew().write(1, "b", 0)
		s.again().goesOn(1, 0).steps(0, 1).goesOn(0, 1).reads(2, 0, "b").reads(2, 1, "a").end()
		s.again().steps(0, 1).goesOn(1, 0).goesOn(0, 1).reads(2, 0, "b").reads(2, 1, "a").end()
		s.again().steps(0, 1).renew().steps(0, 1).steps(1, 1).goesOn(1, 1).goesOn(0, 0).reads(2, 0, "a").reads(2, 1, "b").end()
		s.again().steps(0, 1).renew().steps(1, 1).steps(0, 1).goesOn(0, 1).goesOn(1, 0).reads(2, 0, "b").reads(2, 1, "a").end()
		// A mend behind the counter lies in the way of both.
		s.again().junked(2, 1).steps(0, 2).goesOn(0, 2).goesOn(1, 0).end()
		s.again().junked(2, 0).steps(1, 1).steps(0, 1).goesOn(0, 2).goesOn(1, 1).end()
	}
}

// P22.3: sealed out in the middle and at the end: the append keeps its position, and does that step again.
func TestAppendSealedElsewhere(t *testing.T) {
	for n := 2; n <= 3; n++ {
		for at := 1; at < n; at++ {
			s := tell(t, one(n)).write(0, "a", 0).steps(0, at).renew()
			s.again().steps(0, 1).readsNone(1, 0).steps(0, n-1-at).wrote(0, 0).reads(1, 0, "a").end()
			s.again().steps(0, 1).renew().steps(0, 1).renew().renew().steps(0, 1).readsNone(1, 0).steps(0, n-1-at).wrote(0, 0).reads(1, 0, "a").end()
			s.again().steps(0, n-at).wrote(0, 0).written(1, "b", 1).reads(2, 0, "a").end()
			// Another one has helped: it is sealed out nevertheless, and that is its step.
			s.again().mended(1, 0, "a").steps(0, n-at).wrote(0, 0).idle(0).end()
			// At the last unit, once more.
			s.again().steps(0, n-at).renew().steps(0, 1).wrote(0, 0).reads(1, 0, "a").end()
		}
	}
}

// P22.3: an append that is sealed out elsewhere while there is no place any more goes on all the same.
func TestAppendSealedFull(t *testing.T) {
	for n := 2; n <= 3; n++ {
		tell(t, one(n)).junked(3, 62).renew().write(0, "a", 63).steps(0, 1).renew().refuses(api.ErrFull, write(1, "b")).steps(0, n-1).wrote(0, 63).reads(1, 63, "a").end()
	}
}
