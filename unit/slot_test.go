package unit

import (
	"slices"
	"testing"

	"commonhold/api"
)

// P19.3: addresses at which there is a slot, and at which there is none; of an epoch that is not the unit's that is told first.
func TestAddresses(t *testing.T) {
	for _, epoch := range []int{0, 1, 6, api.MaxEpoch} {
		first := jobs(seal(epoch))
		for _, addr := range append(oddNumbers(), -1, -64, 64, 65, 127, 128, 256, 4096) {
			for _, j := range append(atSlots(addr), store(addr, ""), store(addr, long(api.MaxBody+1))) {
				comesBehind(t, first, in(epoch, j, j), coded(api.ErrRange), coded(api.ErrRange))
				for _, other := range append(oddNumbers(), epoch-1, epoch+1) {
					comesBehind(t, first, in(other, j), coded(api.ErrSealed))
				}
			}
		}
		for _, addr := range []int{0, 1, 62, 63} {
			comesBehind(t, first, in(epoch, fetch(addr), store(addr, "a"), fetch(addr), trim(addr), fetch(addr)), coded(api.ErrUnwritten), done(), having("a"), done(), coded(api.ErrTrimmed))
			comesBehind(t, first, in(epoch, fill(addr), fetch(addr), trim(addr)), done(), isJunk(), done())
			for _, other := range []int{-1, epoch - 1, epoch + 1} {
				for _, j := range atSlots(addr) {
					comesBehind(t, first, append(in(other, j), in(epoch, fetch(addr))...), coded(api.ErrSealed), coded(api.ErrUnwritten))
				}
			}
		}
	}
}

// state: what a slot is, how it comes to be so, and what comes of each kind of job at it.
type state struct {
	name                      string
	made                      []api.Job
	store, fetch, fill, after api.Reply // after: what a Fetch comes to behind a Store or Fill that is refused
}

func states(addr int) []state {
	return []state{
		{"unwritten", nil, done(), coded(api.ErrUnwritten), done(), coded(api.ErrUnwritten)},
		{"torn", jobs(store(addr, "torn"), crash(11)), done(), coded(api.ErrUnwritten), done(), coded(api.ErrUnwritten)},
		{"data", jobs(store(addr, "old")), written("old"), having("old"), written("old"), having("old")},
		{"no data", jobs(store(addr, "")), written(""), having(""), written(""), having("")},
		{"nil data", jobs(api.Job{Kind: api.Store, Addr: addr}), written(""), having(""), written(""), having("")},
		{"much data", jobs(store(addr, long(api.MaxBody))), written(long(api.MaxBody)), having(long(api.MaxBody)), written(long(api.MaxBody)), having(long(api.MaxBody))},
		{"crashed data", jobs(store(addr, "old"), crash(11)), written("old"), having("old"), written("old"), having("old")},
		{"junk", jobs(fill(addr)), writtenJunk(), isJunk(), writtenJunk(), isJunk()},
		{"trimmed", jobs(trim(addr)), coded(api.ErrTrimmed), coded(api.ErrTrimmed), coded(api.ErrTrimmed), coded(api.ErrTrimmed)},
		{"trimmed data", jobs(store(addr, "old"), trim(addr)), coded(api.ErrTrimmed), coded(api.ErrTrimmed), coded(api.ErrTrimmed), coded(api.ErrTrimmed)},
		{"trimmed junk", jobs(fill(addr), trim(addr)), coded(api.ErrTrimmed), coded(api.ErrTrimmed), coded(api.ErrTrimmed), coded(api.ErrTrimmed)},
	}
}

// P19.3: each of the four at a slot of each kind.
func TestSlots(t *testing.T) {
	for _, addr := range []int{0, 1, 40, 63} {
		for _, s := range states(addr) {
			t.Run(s.name, func(t *testing.T) {
				stored, filled := s.after, s.after
				if s.store.Code == api.OK {
					stored, filled = having("new"), isJunk()
				}
				comesBehind(t, s.made, jobs(store(addr, "new"), fetch(addr), fetch(addr)), s.store, stored, stored)
				comesBehind(t, s.made, jobs(fetch(addr), fetch(addr)), s.fetch, s.fetch)
				comesBehind(t, s.made, jobs(fill(addr), fetch(addr), fetch(addr)), s.fill, filled, filled)
				comesBehind(t, s.made, jobs(trim(addr), fetch(addr), trim(addr), fetch(addr)), done(), coded(api.ErrTrimmed), done(), coded(api.ErrTrimmed))
				comesBehind(t, s.made, jobs(trim(addr), store(addr, "new"), fill(addr), store(addr, ""), fetch(addr)), done(), coded(api.ErrTrimmed), coded(api.ErrTrimmed), coded(api.ErrTrimmed), coded(api.ErrTrimmed))
			})
		}
	}
}

// P19.3: behind a seal slots are as they were, for all that comes from the new epoch.
func TestSlotsBehindSeal(t *testing.T) {
	for _, s := range states(3) {
		comesBehind(t, append(s.made, seal(1)), in(1, fetch(3), store(3, "new")), s.fetch, s.store)
		comesBehind(t, append(s.made, seal(1)), in(1, fill(3)), s.fill)
		comesBehind(t, append(s.made, seal(1)), in(1, trim(3), fetch(3)), done(), coded(api.ErrTrimmed))
	}
}

// P19.3: one slot's jobs leave all others as they are.
func TestSlotsApart(t *testing.T) {
	first := jobs(store(10, "ten"), fill(11), trim(12), store(13, ""))
	want := replies(having("ten"), isJunk(), coded(api.ErrTrimmed), having(""), coded(api.ErrUnwritten), coded(api.ErrUnwritten))
	for addr := range api.MaxAddr {
		if addr > 8 && addr < 16 {
			continue
		}
		for _, j := range append(atSlots(addr), store(addr, ""), store(addr, long(api.MaxBody+1))) {
			all := slices.Concat(first, jobs(j, crash(0), fetch(10), fetch(11), fetch(12), fetch(13), fetch(9), fetch(14)))
			comesBehind(t, all[:6], all[6:], want...)
		}
	}
}

// P19.3: how much Data may be; too much of it is told ahead of what the slot has, and behind its epoch and its address.
func TestStoreSizes(t *testing.T) {
	for _, n := range []int{0, 1, 2, 255, 256, api.MaxBody - 1, api.MaxBody} {
		plays(t, jobs(store(0, long(n)), fetch(0), fill(0), store(0, "a")), done(), having(long(n)), written(long(n)), written(long(n)))
	}
	plays(t, jobs(api.Job{Kind: api.Store, Data: nil}, api.Job{Kind: api.Store, Addr: 1, Data: []byte{}}, fetch(0), fetch(1), store(0, "a"), store(1, "a"), fill(0), fill(1), seal(1)),
		done(), done(), having(""), having(""), written(""), written(""), written(""), written(""), tailed(2))
	for _, n := range []int{api.MaxBody + 1, api.MaxBody + 2, api.MaxBody + 8, 1 << 16} {
		for _, s := range states(2) {
			comesBehind(t, s.made, jobs(store(2, long(n)), fetch(2)), coded(api.ErrSize), s.fetch)
			comesBehind(t, s.made, in(1, store(2, long(n))), coded(api.ErrSealed))
		}
		plays(t, jobs(store(64, long(n)), store(-1, long(n)), store(2, long(n)), fill(2), fetch(2)), coded(api.ErrRange), coded(api.ErrRange), coded(api.ErrSize), done(), isJunk())
	}
}

// P19.3: bytes of all kinds come out as they came in.
func TestStoreBytes(t *testing.T) {
	var all []byte
	for c := range 256 {
		all = append(all, byte(c))
		plays(t, jobs(store(7, string([]byte{byte(c)})), fetch(7)), done(), having(string([]byte{byte(c)})))
	}
	plays(t, jobs(store(7, string(all)), fetch(7), fill(7), crash(0), fetch(7)), done(), having(string(all)), written(string(all)), done(), having(string(all)))
}
