package intent

import "commonhold/api"

// numberSize: how many bytes a number has.
const numberSize = 4

// reader: the bytes that are still to be read. Once it is torn it stays so, and what it reads from then on is nothing: so it is asked once, at the end.
type reader struct {
	rest []byte
	torn bool
}

// readIntent: the intent that bytes tell, whether or not it may be; and whether they tell one, to their end.
func readIntent(b []byte) (api.Intent, bool) {
	r := &reader{rest: b}
	var x api.Intent
	x.Client = r.number()
	x.Number = r.number()
	x.Base = r.number()
	x.Reads = many(r, func() api.Range {
		low := r.text()
		high := r.text()
		return api.Range{Low: low, High: high}
	})
	x.Writes = many(r, func() api.Write {
		key := r.text()
		gone := r.gone()
		value := r.text()
		return api.Write{Key: key, Value: value, Gone: gone}
	})
	return x, !r.torn && len(r.rest) == 0
}

// many: things of whatever kind, so many as a number tells that stands ahead of them. That number may say anything: so no room is made by it, and what is torn ends the reading.
func many[T any](r *reader, one func() T) []T {
	n := r.number()
	var l []T
	for len(l) < n && !r.torn {
		l = append(l, one())
	}
	return l
}

// take: the next n bytes, still those that were handed in; none, where there are fewer.
func (r *reader) take(n int) []byte {
	if r.torn || n > len(r.rest) {
		r.torn = true
		return nil
	}
	// Without the third index what is still to be read would be the spare room of what was.
	taken := r.rest[:n:n]
	r.rest = r.rest[n:]
	return taken
}

func (r *reader) number() int {
	n := 0
	for i, c := range r.take(numberSize) {
		n |= int(c) << (8 * i)
	}
	return n
}

// text: a text, of new memory.
func (r *reader) text() []byte {
	return append([]byte(nil), r.take(r.number())...)
}

// gone: whether a write is Gone. Bytes that are neither of the two tell nothing.
func (r *reader) gone() bool {
	b := r.take(1)
	if len(b) == 0 || b[0] != isGone && b[0] != notGone {
		r.torn = true
		return false
	}
	return b[0] == isGone
}
