package chain

import (
	"testing"

	"commonhold/api"
)

// P22.4: a client that was at work is not any more, whatever it was at, and at whatever step.
func TestStop(t *testing.T) {
	for n := 1; n <= 3; n++ {
		for at := range n {
			tell(t, one(n)).write(0, "a", 0).steps(0, at).stop(0).idle(0).readsNone(1, 0).write(0, "b", 1).goesOn(0, 1).end()
			tell(t, one(n)).mend(0, 0).steps(0, at).stop(0).idle(0).readsNone(1, 0).write(0, "b", 0).end()
		}
		tell(t, one(n)).read(0, 0).stop(0).idle(0).readsNone(0, 0).end()
	}
}

// P22.4: a Stop of a client that is not at work is nothing, nor is one more.
func TestStopIdle(t *testing.T) {
	for _, l := range layouts() {
		tell(t, l).stop(0).stop(3).stop(0).idle(0, 3).written(0, "a", 0).stop(0).reads(0, 0, "a").stop(0).stop(0).mended(0, 0, "a").stop(0).write(0, "b", 1).stop(0).stop(0).idle(0).end()
	}
}

// P22.4: the others go on.
func TestStopOthers(t *testing.T) {
	for who := range api.MaxHands {
		s := tell(t, three()).write(0, "a", 0).mend(1, 1).read(2, 2).mend(3, 5).stop(who)
		if who != 0 {
			s.wrote(0, 0)
		}
		if who != 1 {
			s.steps(1, 1).gotJunk(1, 1)
		}
		if who != 2 {
			s.gotNone(2, 2)
		}
		if who != 3 {
			s.steps(3, 2).gotJunk(3, 5)
		}
		s.idle(0, 1, 2, 3).end()
	}
}

// P22.4: a stopped append leaves its position to nobody; what it has put down stays.
func TestStopAppend(t *testing.T) {
	for n := 2; n <= 3; n++ {
		s := tell(t, one(n)).write(0, "a", 0).stop(0)
		s.again().write(0, "b", 1).goesOn(0, 1).readsNone(1, 0).end()
		s.again().junked(1, 0).end()
		s = tell(t, one(n)).write(0, "a", 0).steps(0, 1).stop(0)
		s.again().write(0, "b", 1).goesOn(0, 1).readsNone(1, 0).mended(1, 0, "a").end()
	}
}

// P22.4: one that works again behind a Stop begins anew: its kind of work, its position, its data, its place on the chain and its epoch are those of the new work.
func TestStopAnew(t *testing.T) {
	for n := 1; n <= 3; n++ {
		for at := range n {
			s := tell(t, one(n)).written(1, "z", 0)
			ways := []*story{
				s.again().write(0, "a", 1).steps(0, at).stop(0),
				s.again().mend(0, 30).steps(0, at).stop(0),
				s.again().mend(0, 0).steps(0, at).stop(0),
				s.again().read(0, 0).stop(0),
				s.again().read(0, 0).renew().stop(0),
				s.again().read(0, 0).renew().steps(0, 1).stop(0),
			}
			for i, w := range ways {
				next := 1
				if i == 0 {
					next = 2
				}
				w.again().reads(0, 0, "z").end()
				w.again().readsNone(0, 5).end()
				w.again().mended(0, 0, "z").end()
				w.again().junked(0, 9).readsJunk(1, 9).end()
				w.again().written(0, "b", next).reads(1, next, "b").end()
				w.again().written(0, "", next).reads(1, next, "").end()
			}
		}
	}
}

// P22.4: the counter is one more than the greatest position that has something at its head.
func TestRenewCounter(t *testing.T) {
	for _, l := range renewable() {
		tell(t, l).renew().write(0, "a", 0).end()
		tell(t, l).renew().renew().write(0, "a", 0).end()
		tell(t, l).write(0, "a", 0).write(1, "b", 1).write(2, "c", 2).renew().write(3, "d", 0).end()
		s := tell(t, l)
		for pos := range 9 {
			tell(t, l).junked(0, pos).renew().write(1, "a", pos+1).end()
			tell(t, l).junked(0, pos).junked(0, 3).renew().write(1, "a", max(pos, 3)+1).end()
			tell(t, l).junked(0, pos).renew().junked(1, 20).renew().write(1, "a", 21).renew().stop(1).renew().write(2, "b", 21).end()
			s.written(3, "z", pos)
			s.again().renew().write(1, "a", pos+1).end()
		}
	}
}

// P22.4: what stands at a head alone counts, what was only given does not.
func TestRenewInPart(t *testing.T) {
	for n := 1; n <= 3; n++ {
		for at := 1; at < n; at++ {
			tell(t, one(n)).write(0, "a", 0).steps(0, at).write(1, "b", 1).renew().write(2, "c", 1).stop(1).end()
			tell(t, one(n)).mend(0, 5).steps(0, at).renew().write(2, "c", 6).end()
		}
	}
	// What stands at its head, the c, keeps its position; the others get those behind it.
	s := tell(t, three()).write(0, "a", 0).write(1, "b", 1).write(2, "c", 2).write(3, "d", 3).steps(2, 1).renew()
	s.stop(0).write(0, "e", 3).steps(1, 1).steps(3, 1).wrote(0, 3).goesOn(1, 4).goesOn(3, 5).steps(2, 2).wrote(2, 2)
	s.reads(0, 2, "c").reads(0, 3, "e").reads(0, 4, "b").reads(0, 5, "d").readsNone(0, 0, 1).end()
}

// P22.4: all units are sealed: no work of an older epoch does a job anywhere.
func TestRenewSeals(t *testing.T) {
	for _, l := range renewable() {
		for pos := range 6 {
			for at := range length(l, pos) {
				s := tell(t, l).mend(0, pos).steps(0, at).read(1, pos).renew()
				s.steps(0, 1).steps(1, 1).gotNone(1, pos).steps(0, s.along(pos)-at).gotJunk(0, pos).end()
			}
		}
	}
}

// P22.4: the greatest epoch: there is no next one, and all stays as it was.
func TestRenewOver(t *testing.T) {
	for _, l := range layouts() {
		for ahead := range 3 {
			l.Epoch = api.MaxEpoch - ahead
			s := tell(t, l)
			for pos := range ahead {
				s.written(0, "a", pos).renew()
			}
			s.write(1, "b", ahead).read(2, 0).write(3, "c", ahead+1).refuses(api.ErrOver, renew(), renew()).
				goesOn(1, ahead).stop(3).refuses(api.ErrOver, renew()).write(3, "d", ahead+2).goesOn(3, ahead+2).stop(2)
			s.readsNone(2, ahead+1).reads(2, ahead, "b").junked(0, ahead+1).end()
		}
	}
}

// P22.4: as many epochs as there may be acts.
func TestRenewMany(t *testing.T) {
	for _, l := range renewable() {
		l.Epoch = 0
		s := tell(t, l).written(0, "a", 0)
		for len(s.l) < 380 {
			s.renew()
		}
		s.reads(1, 0, "a").write(1, "b", 1).end()
	}
	l := one(1)
	l.Epoch = api.MaxEpoch - 380
	s := tell(t, l)
	for range 380 {
		s.renew()
	}
	s.refuses(api.ErrOver, renew()).written(0, "a", 0).end()
}
