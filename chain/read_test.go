package chain

import (
	"testing"

	"commonhold/api"
)

// P22.3: a read of what is unwritten, of data and of junk is one step, on chains of one, two and three units.
func TestRead(t *testing.T) {
	for n := 1; n <= 3; n++ {
		tell(t, one(n)).written(0, "a", 0).written(0, "", 1).junked(0, 2).
			reads(1, 0, "a").idle(1).reads(1, 1, "").idle(1).readsJunk(1, 2).idle(1).readsNone(1, 3, 4, 63).idle(1).
			reads(0, 0, "a").reads(2, 0, "a").reads(3, 0, "a").reads(1, 0, "a").end()
	}
}

// P22.3: each position of each chain is read where it ends.
func TestReadChains(t *testing.T) {
	for _, l := range layouts() {
		s := tell(t, l)
		for pos := range 12 {
			if pos%3 == 2 {
				s.written(0, "", pos)
			} else {
				s.written(0, long(pos), pos)
			}
		}
		for pos := range 12 {
			if pos%3 == 2 {
				s.reads(1, pos, "")
			} else {
				s.reads(1, pos, long(pos))
			}
		}
		s.readsNone(1, 12, 13).end()
	}
}

// P22.3: what is at the head alone, or in the middle, is not read.
func TestReadInPart(t *testing.T) {
	for n := 2; n <= 3; n++ {
		for at := 1; at < n; at++ {
			tell(t, one(n)).write(0, "a", 0).steps(0, at).readsNone(1, 0).end()
			tell(t, one(n)).mend(0, 0).steps(0, at).readsNone(1, 0).end()
		}
	}
}

// P22.3: a read tells what there is at its step, not at its beginning; and a read that ended is not begun anew.
func TestReadAtStep(t *testing.T) {
	for n := 1; n <= 3; n++ {
		tell(t, one(n)).read(1, 0).written(0, "a", 0).got(1, 0, "a").read(1, 1).junked(0, 1).gotJunk(1, 1).read(1, 2).gotNone(1, 2).idle(1).end()
	}
}

// P22.3: a read that is sealed out: that was its step, and the next one reads.
func TestReadSealed(t *testing.T) {
	for _, l := range renewable() {
		s := tell(t, l).written(0, "a", 0).junked(0, 1).read(1, 0).read(2, 1).read(3, 2).renew()
		s.again().steps(1, 1).got(1, 0, "a").steps(2, 1).gotJunk(2, 1).steps(3, 1).gotNone(3, 2).idle(1, 2, 3).end()
		s.again().renew().renew().steps(1, 1).got(1, 0, "a").steps(2, 1).gotJunk(2, 1).steps(3, 1).gotNone(3, 2).end()
		s.again().steps(1, 1).steps(2, 1).steps(3, 1).renew().steps(1, 1).steps(2, 1).steps(3, 1).gotNone(3, 2).gotJunk(2, 1).got(1, 0, "a").end()
		s.again().steps(3, 1).junked(0, 2).gotJunk(3, 2).end()
	}
}

// P22.3: what was read once is read ever after, whatever goes on.
func TestReadEver(t *testing.T) {
	for _, l := range renewable() {
		s := tell(t, l).written(0, "a", 0).junked(0, 1)
		for range 3 {
			s.reads(1, 0, "a").readsJunk(2, 1).mended(3, 0, "a").junked(0, 1).renew().read(1, 1).gotJunk(1, 1).mended(0, 0, "a")
		}
		s.write(3, "b", 2).end()
	}
}

// P22.3: data that look like nothing, or like junk, are data.
func TestReadData(t *testing.T) {
	for _, data := range []string{"", "\x00", "junk", "\x00\x00\x00\x00\x00\x00\x00\x00", "\xff\xfe", long(api.MaxBody)} {
		for n := 1; n <= 3; n++ {
			tell(t, one(n)).written(0, data, 0).reads(1, 0, data).mended(2, 0, data).reads(3, 0, data).end()
		}
	}
}
