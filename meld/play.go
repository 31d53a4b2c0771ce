package meld

import (
	"bytes"
	"slices"

	"commonhold/api"
	"commonhold/intent"
)

// player: plays a log. Its state is the one behind all that it has played, or, while an entry is played, at that entry's position; it is of the player's own memory.
type player struct {
	api.State
}

// play: what an entry comes to, at the next position.
func (p *player) play(entry []byte) api.Errno {
	p.At++
	x, code := intent.Decode(entry)
	if code != api.OK {
		return api.ErrForm
	}
	done := api.Done{Client: x.Client, Number: x.Number, At: p.At}
	place, there := slices.BinarySearchFunc(p.Dones, done, compareDones)
	if there {
		return api.ErrTwice
	}
	code = p.judge(x)
	if code == api.OK {
		done.Kept = true
		p.write(x.Writes)
	}
	p.Dones = slices.Insert(p.Dones, place, done)
	return code
}

// judge: whether an intent that is not Done is kept, and if not, why.
func (p *player) judge(x api.Intent) api.Errno {
	if x.Base >= p.At {
		return api.ErrRange
	}
	if p.hasChanged(x.Reads, x.Base) {
		return api.ErrConflict
	}
	return api.OK
}

// hasChanged: whether one of the ranges has a key that was changed since a base.
func (p *player) hasChanged(reads []api.Range, base int) bool {
	if len(reads) == 0 {
		return false
	}
	// The changed keys are picked out once, so that each range asks but for the first one from its Low on, however many cells it covers.
	changed := p.changedSince(base)
	for _, r := range reads {
		place, _ := slices.BinarySearchFunc(changed, r.Low, bytes.Compare)
		if place < len(changed) && bytes.Compare(changed[place], r.High) < 0 {
			return true
		}
	}
	return false
}

// changedSince: the keys of cells, Gone or not, that were changed since a base, in their order.
func (p *player) changedSince(base int) [][]byte {
	var keys [][]byte
	for _, c := range p.Cells {
		if c.Since > base {
			keys = append(keys, c.Key)
		}
	}
	return keys
}

// write: each write is a cell's from now on. They ascend as the cells do: so both are gone through but once. Their bytes, that Decode made anew, are kept.
func (p *player) write(writes []api.Write) {
	rest := p.Cells
	cells := make([]api.Cell, 0, len(rest)+len(writes))
	for _, w := range writes {
		place, there := findCell(rest, w.Key)
		cells = append(cells, rest[:place]...)
		cells = append(cells, api.Cell{Key: w.Key, Value: w.Value, Gone: w.Gone, Since: p.At})
		if there {
			place++
		}
		rest = rest[place:]
	}
	p.Cells = append(cells, rest...)
}

// findCell: where a key stands among cells, or would stand, and whether it is there.
func findCell(l []api.Cell, key []byte) (int, bool) {
	return slices.BinarySearchFunc(l, key, func(c api.Cell, key []byte) int { return bytes.Compare(c.Key, key) })
}

// copiedState: a state of new memory.
func copiedState(s api.State) api.State {
	var cells []api.Cell
	for _, c := range s.Cells {
		c.Key, c.Value = copiedBytes(c.Key), copiedBytes(c.Value)
		cells = append(cells, c)
	}
	return api.State{At: s.At, Cells: cells, Dones: append([]api.Done(nil), s.Dones...)}
}

// copiedBytes: bytes of new memory.
func copiedBytes(b []byte) []byte {
	return append([]byte(nil), b...)
}
