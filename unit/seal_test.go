package unit

import (
	"math"
	"slices"
	"testing"

	"commonhold/api"
)

// P19.2: epochs that a unit is sealed with, at first and later on.
func TestSeal(t *testing.T) {
	plays(t, jobs(seal(0)), coded(api.ErrSealed))
	for _, x := range []struct {
		epoch, next int
		want        api.Errno
	}{
		{0, 0, api.ErrSealed}, {0, 1, api.OK}, {0, 2, api.OK}, {0, -1, api.ErrSealed}, {0, math.MinInt64, api.ErrSealed},
		{0, api.MaxEpoch - 1, api.OK}, {0, api.MaxEpoch, api.OK}, {0, api.MaxEpoch + 1, api.ErrRange}, {0, math.MaxInt64, api.ErrRange},
		{1, 0, api.ErrSealed}, {1, 1, api.ErrSealed}, {1, 2, api.OK}, {1, -1, api.ErrSealed}, {1, 1000, api.OK},
		{7, 6, api.ErrSealed}, {7, 7, api.ErrSealed}, {7, 8, api.OK}, {7, -7, api.ErrSealed}, {7, 0, api.ErrSealed}, {7, 1 << 32, api.ErrRange}, {7, 1<<32 + 8, api.ErrRange},
		{999999, 999998, api.ErrSealed}, {999999, 999999, api.ErrSealed}, {999999, 1000000, api.OK}, {999999, 1000001, api.ErrRange},
		{1000000, 999999, api.ErrSealed}, {1000000, 1000000, api.ErrSealed}, {1000000, 1000001, api.ErrRange}, {1000000, math.MaxInt64, api.ErrRange}, {1000000, math.MinInt64, api.ErrSealed}, {1000000, 0, api.ErrSealed},
	} {
		first := jobs(fill(4))
		if x.epoch > 0 {
			first = append(first, seal(x.epoch))
		}
		// A refused one leaves the epoch as it is, and tells no Tail.
		sealed, old, other := coded(x.want), isJunk(), coded(api.ErrSealed)
		if x.want == api.OK {
			sealed, old, other = tailed(5), coded(api.ErrSealed), isJunk()
		}
		l := append(jobs(seal(x.next)), in(x.epoch, fetch(4))...)
		if x.next == x.epoch {
			comesBehind(t, first, l, sealed, old)
			continue
		}
		comesBehind(t, first, append(l, in(x.next, fetch(4))...), sealed, old, other)
	}
}

// P19.2: one by one up, and not down again.
func TestSealInARow(t *testing.T) {
	plays(t, jobs(seal(1), seal(2), seal(3), seal(3), seal(1), seal(2), seal(4), seal(api.MaxEpoch), seal(5), seal(api.MaxEpoch), seal(api.MaxEpoch+1)),
		tailed(0), tailed(0), tailed(0), coded(api.ErrSealed), coded(api.ErrSealed), coded(api.ErrSealed), tailed(0), tailed(0), coded(api.ErrSealed), coded(api.ErrSealed), coded(api.ErrRange))
	var l []api.Job
	var want []api.Reply
	for epoch := range api.MaxPlay / 2 {
		l, want = append(l, seal(epoch+1)), append(want, tailed(max(0, epoch)))
		l, want = append(l, in(epoch+1, store(epoch, "a"))...), append(want, done())
		if epoch >= api.MaxAddr {
			want[2*epoch], want[2*epoch+1] = tailed(api.MaxAddr), coded(api.ErrRange)
		}
	}
	plays(t, l, want...)
}

// P19.2, P19.3: all that comes from an epoch that is over, or is not yet, is told so, and does nothing.
func TestSealedOut(t *testing.T) {
	for _, x := range []struct {
		first []api.Job
		epoch int
		tail  int
	}{{in(0, store(0, "a"), fill(1), trim(2)), 0, 3}, {append(in(0, store(0, "a"), fill(1), trim(2)), seal(9)), 9, 3}, {append(jobs(seal(4)), in(4, store(0, "a"), fill(1), trim(2))...), 4, 3}} {
		for _, epoch := range append(oddNumbers(), 0, 3, 4, 5, 8, 9, 10, 999999, 1000000) {
			for addr := -1; addr <= 4; addr++ {
				for _, j := range append(atSlots(addr), store(addr, ""), store(addr, long(api.MaxBody+1))) {
					if epoch == x.epoch {
						continue
					}
					comesBehind(t, x.first, slices.Concat(in(epoch, j, j), jobs(crash(0)), in(x.epoch, fetch(0), fetch(1), fetch(2), fetch(3)), jobs(seal(x.epoch+1))),
						coded(api.ErrSealed), coded(api.ErrSealed), done(), having("a"), isJunk(), coded(api.ErrTrimmed), coded(api.ErrUnwritten), tailed(x.tail))
				}
			}
		}
	}
}

// P19.2: Seal's Addr and Data, and those of a Fetch, a Fill and a Trim: nothing is asked of them.
func TestFieldsNotAsked(t *testing.T) {
	for _, b := range [][]byte{nil, []byte("b"), make([]byte, api.MaxBody+1)} {
		for _, addr := range append(oddNumbers(), 0, 63, 64) {
			plays(t, jobs(api.Job{Kind: api.Seal, Epoch: 1, Addr: addr, Data: b}, seal(2)), tailed(0), tailed(0))
		}
		plays(t, jobs(api.Job{Kind: api.Fetch, Data: b}, api.Job{Kind: api.Fill, Data: b}, api.Job{Kind: api.Fetch, Data: b}, api.Job{Kind: api.Trim, Data: b}, api.Job{Kind: api.Fetch, Data: b}),
			coded(api.ErrUnwritten), done(), isJunk(), done(), coded(api.ErrTrimmed))
	}
}

// P19.2: what Tail tells.
func TestTail(t *testing.T) {
	for _, x := range []struct {
		first []api.Job
		tail  int
	}{
		{nil, 0}, {jobs(fetch(0), fetch(63), store(-1, "a"), store(64, "a"), fill(64), trim(64), trim(-1)), 0},
		{jobs(store(0, "a")), 1}, {jobs(store(0, "")), 1}, {jobs(fill(0)), 1}, {jobs(trim(0)), 1},
		{jobs(store(1, "a")), 2}, {jobs(store(5, "")), 6}, {jobs(fill(5)), 6}, {jobs(trim(5)), 6},
		{jobs(store(63, "a")), 64}, {jobs(store(63, "")), 64}, {jobs(fill(63)), 64}, {jobs(trim(63)), 64},
		{jobs(store(62, "a")), 63}, {jobs(store(31, "a"), fill(30), trim(2)), 32}, {jobs(fill(31), trim(32), store(3, "a")), 33},
		{jobs(store(0, "a"), store(1, "b"), fill(2), trim(3)), 4}, {jobs(store(9, "a"), store(3, "a"), fill(7)), 10},
		{jobs(store(9, "a"), trim(9)), 10}, {jobs(fill(9), trim(9)), 10}, {jobs(trim(9), trim(9), store(9, "a"), fill(4)), 10},
		{jobs(store(9, "a"), store(9, "b"), fill(9)), 10}, {jobs(store(9, long(api.MaxBody+1)), fill(2)), 3},
		{in(1, store(9, "a"), fill(9), trim(9)), 0},
	} {
		comesBehind(t, x.first, jobs(seal(1), seal(1), seal(0), seal(api.MaxEpoch+1), seal(2), crash(0), seal(3)),
			tailed(x.tail), coded(api.ErrSealed), coded(api.ErrSealed), coded(api.ErrRange), tailed(x.tail), done(), tailed(x.tail))
	}
	for addr := range api.MaxAddr {
		for _, j := range jobs(store(addr, "a"), fill(addr), trim(addr)) {
			comesBehind(t, jobs(j), jobs(seal(1)), tailed(addr+1))
		}
	}
}
