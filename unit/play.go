package unit

import (
	"bytes"

	"commonhold/api"
)

// Unit: slots that are written once, and what it takes to go on with them; the zero one is at its beginning. It has nothing of the memory of its jobs.
type Unit struct {
	slots [api.MaxAddr]content
	epoch int
	// fresh: to which slot the job just ahead stored, counted from 1 on, or 0: only there can a crash undo something.
	fresh int
}

// Do: what a job comes to, for those who have their jobs one at a time.
func (u *Unit) Do(j api.Job) api.Reply {
	fresh := u.fresh
	u.fresh = 0
	switch j.Kind {
	case api.Store, api.Fetch, api.Fill, api.Trim:
		return u.playAt(j)
	case api.Seal:
		return u.seal(j.Epoch)
	case api.Crash:
		u.crash(fresh, j.Addr)
		return api.Reply{}
	}
	return api.Reply{Code: api.ErrKind}
}

// playAt: what a job at a slot comes to.
func (u *Unit) playAt(j api.Job) api.Reply {
	if j.Epoch != u.epoch {
		return api.Reply{Code: api.ErrSealed}
	}
	if j.Addr < 0 || j.Addr >= api.MaxAddr {
		return api.Reply{Code: api.ErrRange}
	}
	switch j.Kind {
	case api.Store:
		return u.store(j.Addr, j.Data)
	case api.Fetch:
		return read(u.slots[j.Addr])
	case api.Fill:
		return u.put(j.Addr, junk{})
	}
	u.slots[j.Addr] = trimmed{}
	return api.Reply{}
}

func (u *Unit) store(addr int, b []byte) api.Reply {
	if len(b) > api.MaxBody {
		return api.Reply{Code: api.ErrSize}
	}
	r := u.put(addr, data(bytes.Clone(b)))
	if r.Code == api.OK {
		u.fresh = addr + 1
	}
	return r
}

// put: c stands in a slot from then on, if the slot is unwritten. What the slot has is told, if not.
func (u *Unit) put(addr int, c content) api.Reply {
	has := u.slots[addr]
	if has == nil {
		u.slots[addr] = c
		return api.Reply{}
	}
	r := read(has)
	r.Code = has.refusal()
	return r
}

func (u *Unit) seal(epoch int) api.Reply {
	if epoch <= u.epoch {
		return api.Reply{Code: api.ErrSealed}
	}
	if epoch > api.MaxEpoch {
		return api.Reply{Code: api.ErrRange}
	}
	u.epoch = epoch
	return api.Reply{Tail: u.tail()}
}

// tail: the least address above all that are written.
func (u *Unit) tail() int {
	for addr := len(u.slots); addr > 0; addr-- {
		if u.slots[addr-1] != nil {
			return addr
		}
	}
	return 0
}

// crash: of the frame that was put down just ahead, in the slot fresh (counted from 1 on, 0: none was), only so many bytes are there. A frame that lacks a byte never opens.
func (u *Unit) crash(fresh, size int) {
	if fresh == 0 {
		return
	}
	if d, ok := u.slots[fresh-1].(data); ok && size < d.frameSize() {
		u.slots[fresh-1] = nil
	}
}
