package rel

import (
	"math"

	"commonhold/api"
	"commonhold/eval"
)

// gatherer: the method of a group that tells what one of CountAll to Max comes to, by its parts; nil: it is none of these.
func (g group) gatherer(op int) func(parts []api.Expr) (api.Value, api.Errno) {
	switch op {
	case api.CountAll:
		return g.countAll
	case api.Count:
		return g.count
	case api.Sum:
		return g.sum
	case api.Min:
		return g.least
	case api.Max:
		return g.greatest
	}
	return nil
}

// each hands on what a part comes to, asked of the rows one by one, without the Nulls. What is refused, of a row or by take, ends it.
func (g group) each(part api.Expr, take func(v api.Value) api.Errno) api.Errno {
	for _, row := range g {
		v, code := eval.Eval(part, row)
		if code == api.OK && !isNull(v) {
			code = take(v)
		}
		if code != api.OK {
			return code
		}
	}
	return api.OK
}

func integer(n int) api.Value {
	return api.Value{Kind: api.Int, Int: n}
}

func (g group) countAll([]api.Expr) (api.Value, api.Errno) {
	return integer(len(g)), api.OK
}

func (g group) count(parts []api.Expr) (api.Value, api.Errno) {
	n := 0
	code := g.each(parts[0], func(api.Value) api.Errno {
		n++
		return api.OK
	})
	if code != api.OK {
		return api.Value{}, code
	}
	return integer(n), api.OK
}

func (g group) least(parts []api.Expr) (api.Value, api.Errno) {
	return g.outermost(parts[0], -1)
}

func (g group) greatest(parts []api.Expr) (api.Value, api.Errno) {
	return g.outermost(parts[0], 1)
}

// outermost: the value that stands on that side (as Order tells it) of all others.
func (g group) outermost(part api.Expr, side int) (api.Value, api.Errno) {
	var kept api.Value
	code := g.each(part, func(v api.Value) api.Errno {
		if isNull(kept) || order(v, kept) == side {
			kept = v
		}
		return api.OK
	})
	if code != api.OK {
		return api.Value{}, code
	}
	return kept, api.OK
}

func (g group) sum(parts []api.Expr) (api.Value, api.Errno) {
	var t total
	if code := g.each(parts[0], t.add); code != api.OK {
		return api.Value{}, code
	}
	return t.whole()
}

// total: a sum in two halves, so that it runs over only at its end, if the whole does: of MaxRows numbers neither half does.
type total struct {
	count     int
	high, low int
}

// lowBits: how many bits the lower half of a number has.
const lowBits = 32

func (t *total) add(v api.Value) api.Errno {
	if v.Kind != api.Int {
		return api.ErrType
	}
	t.count++
	t.high += v.Int >> lowBits
	t.low += v.Int & (1<<lowBits - 1)
	return api.OK
}

// whole: the sum as a value; Null, if nothing was added.
func (t *total) whole() (api.Value, api.Errno) {
	if t.count == 0 {
		return api.Value{}, api.OK
	}
	high := t.high + t.low>>lowBits
	if high < math.MinInt32 || high > math.MaxInt32 {
		return api.Value{}, api.ErrOver
	}
	return integer(high<<lowBits + t.low&(1<<lowBits-1)), api.OK
}
