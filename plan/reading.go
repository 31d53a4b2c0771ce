package plan

import (
	"bytes"
	"slices"

	"commonhold/api"
	"commonhold/key"
)

// reading: of an index, the values that fix its first columns, and what bounds the next one.
type reading struct {
	index  int
	fixed  []api.Value
	bounds []limit
}

// readingOf: how an index of columns in these places can be read.
func readingOf(index int, places []int, limited map[int]limits) reading {
	r := reading{index: index}
	for _, place := range places {
		c := limited[place]
		if len(c.equals) == 0 {
			r.bounds = c.bounds
			break
		}
		r.fixed = append(r.fixed, c.equals[0].value)
	}
	return r
}

func (r reading) weight() int {
	w := 2 * len(r.fixed)
	if len(r.bounds) > 0 {
		w++
	}
	return w
}

// heaviest: how the index with the greatest weight is read, the lowest one of several.
func heaviest(t api.Table, limited map[int]limits) reading {
	best := readingOf(0, t.Key, limited)
	for i, x := range t.Indexes {
		if r := readingOf(i+1, x.Places, limited); r.weight() > best.weight() {
			best = r
		}
	}
	return best
}

// keys: the Range that is read.
func (r reading) keys(table int) api.Range {
	first := []api.Value{{Kind: api.Int, Int: table}, {Kind: api.Int, Int: r.index}}
	ahead := encoded(append(first, r.fixed...)...)
	span := api.Range{Low: ahead, High: next(ahead)}
	for _, b := range r.bounds {
		// Each gets bytes of its own, so that Low and High share none.
		span = narrowed(span, b.op, slices.Concat(ahead, encoded(b.value)))
	}
	return span
}

// narrowed: a Range with one end moved to where a bound with that key says, if that is further inward. The ends do not heed each other: where nothing is left, Low may be behind High.
func narrowed(span api.Range, op int, bound []byte) api.Range {
	switch op {
	case api.Less:
		span.High = lesser(span.High, bound)
	case api.Most:
		span.High = lesser(span.High, next(bound))
	case api.More:
		span.Low = greater(span.Low, next(bound))
	case api.Least:
		span.Low = greater(span.Low, bound)
	}
	return span
}

func lesser(a, b []byte) []byte {
	if bytes.Compare(b, a) < 0 {
		return b
	}
	return a
}

func greater(a, b []byte) []byte {
	if bytes.Compare(b, a) > 0 {
		return b
	}
	return a
}

// encoded: the key of values that may be. They are far fewer than MaxList, so that Encode refuses none of them.
func encoded(l ...api.Value) []byte {
	k, _ := key.Encode(l)
	return k
}

// next: Next of a key. It begins with a number's first byte, which is not 255, and is far shorter than MaxKey, so that there is one.
func next(k []byte) []byte {
	n, _ := key.Next(k)
	return n
}
