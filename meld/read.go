package meld

import "commonhold/api"

// numberSize: how many bytes a number has.
const numberSize = 4

// reader: the bytes that are still to be read. Where they end too early, or tell nothing, it panics: so what reads them need not ask at each of them.
type reader struct {
	rest []byte
}

// readState: the state that bytes tell, whether or not it may be; and whether they tell one, to their end. It is the wall behind which a reader may panic.
func readState(b []byte) (s api.State, ok bool) {
	defer func() {
		if recover() != nil {
			s, ok = api.State{}, false
		}
	}()
	r := &reader{rest: b}
	s.At = r.number()
	s.Cells = r.cells()
	s.Dones = r.dones()
	return s, len(r.rest) == 0
}

// cells: as many as a number tells that stands ahead of them. That number may say anything: so no room is made by it.
func (r *reader) cells() []api.Cell {
	var l []api.Cell
	for range r.number() {
		var c api.Cell
		c.Key = r.text()
		c.Gone = r.whether()
		c.Value = r.text()
		c.Since = r.number()
		l = append(l, c)
	}
	return l
}

// dones: as cells.
func (r *reader) dones() []api.Done {
	var l []api.Done
	for range r.number() {
		var d api.Done
		d.Client = r.number()
		d.Number = r.number()
		d.At = r.number()
		d.Kept = r.whether()
		l = append(l, d)
	}
	return l
}

// take: the next n bytes, still those that were handed in.
func (r *reader) take(n int) []byte {
	if n > len(r.rest) {
		panic(api.ErrShort)
	}
	taken := r.rest[:n]
	r.rest = r.rest[n:]
	return taken
}

func (r *reader) number() int {
	n := 0
	for i, c := range r.take(numberSize) {
		n |= int(c) << (8 * i)
	}
	return n
}

// text: a text, of new memory.
func (r *reader) text() []byte {
	return copiedBytes(r.take(r.number()))
}

// whether: what the byte tells that tells whether something is so. All bytes but two tell nothing.
func (r *reader) whether() bool {
	c := r.take(1)[0]
	if c != isSo && c != notSo {
		panic(api.ErrForm)
	}
	return c == isSo
}
