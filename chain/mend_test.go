package chain

import (
	"testing"

	"commonhold/api"
)

// P22.3: a mend of what is unwritten makes it junk, from the head to the end, step by step.
func TestMend(t *testing.T) {
	for n := 1; n <= 3; n++ {
		for _, pos := range []int{0, 1, 30, 63} {
			s := tell(t, one(n)).mend(0, pos)
			for range n - 1 {
				s.readsNone(1, pos).steps(0, 1)
			}
			s.readsNone(1, pos).gotJunk(0, pos).idle(0).readsJunk(1, pos).junked(2, pos).readsJunk(1, pos).end()
		}
	}
}

// P22.3: a mend of what is written tells it, and changes nothing.
func TestMendWritten(t *testing.T) {
	for _, l := range layouts() {
		for _, data := range []string{"", "a", long(api.MaxBody)} {
			tell(t, l).written(0, data, 0).mended(1, 0, data).idle(1).reads(2, 0, data).mended(3, 0, data).mended(0, 0, data).reads(0, 0, data).write(1, "b", 1).end()
		}
	}
}

// P22.3: a mend of what was appended in part carries it on, and tells it.
func TestMendInPart(t *testing.T) {
	for n := 2; n <= 3; n++ {
		for at := 1; at < n; at++ {
			for _, data := range []string{"", "a", long(api.MaxBody)} {
				s := tell(t, one(n)).write(0, data, 0).steps(0, at)
				s.again().stop(0).mended(1, 0, data).reads(2, 0, data).end()
				s.stop(0).mend(1, 0)
				for range n - 1 {
					s.readsNone(2, 0).steps(1, 1)
				}
				s.got(1, 0, data).reads(2, 0, data).end()
			}
		}
	}
}

// P22.3: a mend goes on with what the head had, whoever writes elsewhere meanwhile.
func TestMendBeside(t *testing.T) {
	for n := 2; n <= 3; n++ {
		s := tell(t, one(n)).mend(0, 0).mend(1, 0).mend(2, 0)
		s.again().steps(0, n-1).gotJunk(0, 0).steps(1, n-1).gotJunk(1, 0).steps(2, n-1).gotJunk(2, 0).end()
		s.again().steps(2, 1).steps(1, n-1).steps(0, n-1).gotJunk(0, 0).steps(2, n-2).gotJunk(2, 0).gotJunk(1, 0).end()
		s = tell(t, one(n)).write(3, "a", 0).steps(3, 1).mend(0, 0).mend(1, 0)
		s.again().steps(0, 1).steps(1, 1).steps(3, n-2).wrote(3, 0).steps(0, n-2).got(0, 0, "a").steps(1, n-2).got(1, 0, "a").end()
		s.again().steps(0, n-1).steps(1, n-1).got(1, 0, "a").got(0, 0, "a").steps(3, n-2).wrote(3, 0).reads(2, 0, "a").end()
	}
}

// P22.3: a mend and an append at the head: the one that comes first has it.
func TestMendAhead(t *testing.T) {
	for _, l := range layouts() {
		s := tell(t, l).write(0, "a", 0).mend(1, 0)
		s.again().steps(1, s.along(0)).gotJunk(1, 0).steps(0, 1).goesOn(0, 1).reads(2, 1, "a").end()
		s.again().goesOn(0, 0).steps(1, s.along(0)).got(1, 0, "a").end()
	}
	for n := 2; n <= 3; n++ {
		s := tell(t, one(n)).write(0, "a", 0).mend(1, 0)
		s.again().steps(1, 1).steps(0, 1).steps(1, n-2).gotJunk(1, 0).goesOn(0, 1).end()
		s.again().steps(0, 1).steps(1, n-1).got(1, 0, "a").steps(0, n-2).wrote(0, 0).end()
	}
}

// P22.3: a mend that was stopped in the middle, and begun anew by another client, or by the same one.
func TestMendAnew(t *testing.T) {
	for n := 1; n <= 3; n++ {
		for at := range n {
			for who := range 2 {
				tell(t, one(n)).mend(0, 0).steps(0, at).stop(0).readsNone(2, 0).junked(who, 0).readsJunk(2, 0).end()
				if n > 1 {
					tell(t, one(n)).write(3, "a", 0).steps(3, 1).stop(3).mend(0, 0).steps(0, at).stop(0).mended(who, 0, "a").reads(2, 0, "a").end()
				}
			}
		}
	}
}

// P22.3: a mend that is sealed out, at whatever unit: that was its step, and it goes on there.
func TestMendSealed(t *testing.T) {
	for n := 1; n <= 3; n++ {
		for at := range n {
			s := tell(t, one(n)).mend(0, 0).steps(0, at).renew()
			s.again().steps(0, 1).readsNone(1, 0).steps(0, n-1-at).gotJunk(0, 0).readsJunk(1, 0).end()
			s.again().steps(0, 1).renew().renew().steps(0, 1).readsNone(1, 0).steps(0, n-1-at).gotJunk(0, 0).end()
			s.again().steps(0, n-at).renew().steps(0, 1).gotJunk(0, 0).idle(0).end()
			s = tell(t, one(n)).written(1, "a", 0).mend(0, 0).steps(0, at).renew()
			s.again().steps(0, 1).steps(0, n-1-at).got(0, 0, "a").reads(1, 0, "a").end()
			s.again().steps(0, n-at).renew().steps(0, 1).got(0, 0, "a").idle(0).end()
		}
	}
}

// P22.3: sealed out at the head, a mend finds what an append of the next epoch has put there.
func TestMendSealedAtHead(t *testing.T) {
	for n := 1; n <= 3; n++ {
		tell(t, one(n)).mend(0, 0).renew().written(1, "a", 0).steps(0, 1).steps(0, n-1).got(0, 0, "a").end()
		tell(t, one(n)).mend(0, 0).renew().write(1, "a", 0).steps(0, 1).steps(0, n-1).gotJunk(0, 0).steps(1, 1).goesOn(1, 1).end()
	}
}

// P22.3: mends of all chains at once, of data and of holes.
func TestMendChains(t *testing.T) {
	tell(t, three()).write(0, "a", 0).write(1, "b", 1).write(2, "c", 2).steps(1, 1).steps(2, 1).stop(1).stop(2).
		mend(1, 1).mend(2, 2).mend(3, 5).steps(3, 1).steps(2, 1).steps(1, 1).steps(3, 1).steps(2, 1).got(1, 1, "b").got(2, 2, "c").gotJunk(3, 5).wrote(0, 0).
		mended(3, 0, "a").reads(3, 1, "b").reads(3, 2, "c").readsJunk(3, 5).readsNone(3, 3, 4, 6, 7, 8).end()
}

// P22.3: a mend behind the counter: the append that comes there is given the next one.
func TestMendBehindCounter(t *testing.T) {
	for _, l := range layouts() {
		tell(t, l).junked(0, 1).junked(0, 2).written(1, "a", 0).write(1, "b", 1).steps(1, 2).goesOn(1, 3).reads(2, 3, "b").readsJunk(2, 1).end()
	}
}
