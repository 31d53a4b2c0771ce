package unit

import (
	"math"
	"slices"
	"testing"

	"commonhold/api"
	"commonhold/frame"
)

// sizes: how many bytes of a frame of n bytes may be put down, by a Crash's Addr: some at which it is torn, some at which it is whole.
func sizes(n int) (torn, whole []int) {
	return []int{math.MinInt64, math.MinInt64 + 1, -1, 0, 1, 3, 4, 7, n / 2, n - 2, n - 1}, []int{n, n + 1, n + 8, 1 << 31, 1 << 32, math.MaxInt64 - 1, math.MaxInt64}
}

// bodies: Data that may be stored.
func bodies() []string {
	return []string{"", "a", "seven b", "\x00\x00\x00\x00\x00\x00\x00\x00", "\xff", long(255), long(256), long(api.MaxBody - 1), long(api.MaxBody)}
}

// P19.4: behind a Store that came to OK, by how much of its frame was put down.
func TestCrash(t *testing.T) {
	for _, body := range bodies() {
		f, _ := frame.Seal([]byte(body))
		torn, whole := sizes(len(f))
		for _, size := range torn {
			for _, addr := range []int{0, 5, 63} {
				first := jobs(store(addr, body), crash(size))
				comesBehind(t, first, jobs(fetch(addr), store(addr, "new"), fetch(addr)), coded(api.ErrUnwritten), done(), having("new"))
				comesBehind(t, first, jobs(fill(addr), fetch(addr)), done(), isJunk())
				comesBehind(t, first, jobs(trim(addr), fetch(addr)), done(), coded(api.ErrTrimmed))
				comesBehind(t, first, jobs(seal(1)), tailed(0))
			}
		}
		for _, size := range whole {
			for _, addr := range []int{0, 5, 63} {
				comesBehind(t, jobs(store(addr, body), crash(size)), jobs(fetch(addr), store(addr, "new"), fill(addr), fetch(addr), seal(1)),
					having(body), written(body), written(body), having(body), tailed(addr+1))
			}
		}
	}
}

// P19.4: each place at which a frame may end.
func TestCrashEachByte(t *testing.T) {
	for _, body := range []string{"", "a", "123456789", long(100)} {
		f, _ := frame.Seal([]byte(body))
		for size := range len(f) + 10 {
			want := coded(api.ErrUnwritten)
			if size >= len(f) {
				want = having(body)
			}
			plays(t, jobs(store(0, body), crash(size), fetch(0)), done(), done(), want)
		}
	}
}

// P19.4: jobs between the Store and the Crash, whatever they came to: then all of the Store stays.
func TestCrashNotJustBehind(t *testing.T) {
	for _, between := range []api.Job{
		fetch(0), fetch(1), fetch(64), fill(0), fill(1), fill(-1), trim(1), trim(64), seal(0), seal(api.MaxEpoch + 1), crash(9), crash(math.MaxInt64), {}, {Kind: 7}, {Kind: -1, Addr: 0},
		store(0, "new"), store(0, ""), store(0, long(api.MaxBody+1)), store(1, long(api.MaxBody+1)), store(64, "a"), store(-1, "a"), {Kind: api.Fetch, Epoch: 1}, {Kind: api.Store, Epoch: 1, Addr: 1},
	} {
		for _, size := range []int{-1, 0, 8, 9} {
			all := jobs(store(0, "a"), between, crash(size), fetch(0))
			comesBehind(t, all[:2], all[2:], done(), having("a"))
		}
	}
	plays(t, append(jobs(store(0, "a"), seal(1), crash(0)), in(1, fetch(0))...), done(), tailed(1), done(), having("a"))
	plays(t, jobs(store(0, "a"), trim(0), crash(0), fetch(0)), done(), done(), done(), coded(api.ErrTrimmed))
	// Of two Stores the second one alone is torn.
	plays(t, jobs(store(0, "a"), store(1, "b"), crash(0), fetch(0), fetch(1)), done(), done(), done(), having("a"), coded(api.ErrUnwritten))
	plays(t, jobs(store(1, "b"), store(0, "a"), crash(8), fetch(0), fetch(1)), done(), done(), done(), coded(api.ErrUnwritten), having("b"))
}

// P19.4: jobs just ahead that are no Store that came to OK: nothing is undone.
func TestCrashBehindOthers(t *testing.T) {
	first := jobs(store(0, "a"), fill(1), trim(2))
	for _, ahead := range []api.Job{
		store(0, "b"), store(1, "b"), store(2, "b"), store(0, ""), store(3, long(api.MaxBody+1)), store(-1, "b"), store(64, "b"), {Kind: api.Store, Addr: 3, Epoch: 1}, {Kind: api.Store, Epoch: -1},
		fetch(0), fetch(1), fetch(2), fetch(3), fill(0), fill(1), fill(2), trim(2), trim(-1), seal(0), {}, {Kind: 7, Data: []byte("b")},
	} {
		for _, size := range []int{-1, 0, 1, 8, 9, 99} {
			all := append(slices.Clone(first), ahead, crash(size), fetch(0), fetch(1), fetch(2), fetch(3), seal(1))
			comesBehind(t, all[:4], all[4:], done(), having("a"), isJunk(), coded(api.ErrTrimmed), coded(api.ErrUnwritten), tailed(3))
		}
	}
	for _, size := range []int{-1, 0, 8, 99} {
		plays(t, jobs(fill(3), crash(size), fetch(3)), done(), done(), isJunk())
		plays(t, jobs(trim(3), crash(size), fetch(3)), done(), done(), coded(api.ErrTrimmed))
	}
}

// P19.4: first of all jobs, and one behind another.
func TestCrashInARow(t *testing.T) {
	for _, size := range append(oddNumbers(), 0, 1, 8, 9) {
		plays(t, jobs(crash(size), fetch(0), seal(1)), done(), coded(api.ErrUnwritten), tailed(0))
		plays(t, jobs(crash(size), crash(size), store(0, "a"), fetch(0)), done(), done(), done(), having("a"))
		// What the first one left whole, the second one leaves as well.
		plays(t, jobs(store(0, "a"), crash(9), crash(size), crash(size), fetch(0)), done(), done(), done(), done(), having("a"))
		plays(t, jobs(store(0, "a"), crash(8), crash(size), fetch(0)), done(), done(), done(), coded(api.ErrUnwritten))
	}
	plays(t, jobs(store(0, "a"), crash(0), store(0, "b"), crash(8), store(0, "c"), crash(9), crash(0), store(0, "d"), crash(0), fetch(0)),
		done(), done(), done(), done(), done(), done(), done(), written("c"), done(), having("c"))
}

// P19.4: a Crash's Epoch and Data: nothing is asked of them.
func TestCrashFieldsNotAsked(t *testing.T) {
	for _, epoch := range append(oddNumbers(), 0, 1, 4, 5, 6, 1000000) {
		for _, b := range [][]byte{nil, []byte("a"), make([]byte, api.MaxBody+1)} {
			c := api.Job{Kind: api.Crash, Epoch: epoch, Addr: 8, Data: b}
			comesBehind(t, append(jobs(seal(5)), in(5, store(0, "a"))...), append(jobs(c), in(5, fetch(0))...), done(), coded(api.ErrUnwritten))
			c.Addr = 9
			comesBehind(t, append(jobs(seal(5)), in(5, store(0, "a"))...), append(jobs(c), in(5, fetch(0))...), done(), having("a"))
		}
	}
}

// P19.4: the epoch and all other slots stay, and a torn slot counts for Tail no more.
func TestCrashLeavesTheRest(t *testing.T) {
	first := append(jobs(seal(7)), in(7, store(0, "a"), fill(1), trim(2), store(3, ""), store(9, "torn"))...)
	for _, size := range []int{-1, 0, 1, 8, 11} {
		l := append(first, crash(size))
		comesBehind(t, l, slices.Concat(in(7, fetch(0), fetch(1), fetch(2), fetch(3), fetch(4), fetch(9)), in(0, fetch(0)), jobs(seal(7), seal(8))),
			having("a"), isJunk(), coded(api.ErrTrimmed), having(""), coded(api.ErrUnwritten), coded(api.ErrUnwritten), coded(api.ErrSealed), coded(api.ErrSealed), tailed(4))
		comesBehind(t, l, append(in(7, store(9, "")), seal(8)), done(), tailed(10))
		comesBehind(t, l, append(in(7, fill(9)), seal(8)), done(), tailed(10))
		comesBehind(t, l, append(in(7, trim(9)), seal(8)), done(), tailed(10))
	}
	comesBehind(t, append(first, crash(12)), append(in(7, fetch(9)), seal(8)), having("torn"), tailed(10))
	// A slot below the greatest written one, too.
	plays(t, jobs(fill(9), store(4, "a"), crash(3), seal(1)), done(), done(), done(), tailed(10))
}

// P5.1: a unit knows how many bytes a frame has.
func TestFrameSize(t *testing.T) {
	for _, body := range bodies() {
		if f, _ := frame.Seal([]byte(body)); len(f) != data(body).frameSize() {
			t.Errorf("the frame of %d bytes: %d, not %d", len(body), data(body).frameSize(), len(f))
		}
	}
}
