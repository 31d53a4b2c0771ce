package eval

import (
	"slices"

	"commonhold/api"
	"commonhold/num"
	"commonhold/value"
)

// comesTo: what an expression that may be asked comes to; at tells what a place does.
func comesTo(e api.Expr, at func(place int) api.Value) (api.Value, api.Errno) {
	switch e.Op {
	case api.Const:
		return e.Value, api.OK
	case api.Place:
		return at(e.Place), api.OK
	case api.And:
		return joined(e.Subs, at, api.No, value.And)
	case api.Or:
		return joined(e.Subs, at, api.Yes, value.Or)
	}
	var parts [2]api.Value
	for i, sub := range e.Subs {
		v, code := comesTo(sub, at)
		if code != api.OK {
			return api.Value{}, code
		}
		parts[i] = v
	}
	return ofParts(e.Op, parts[:len(e.Subs)])
}

// truthOf: the truth value that an expression comes to.
func truthOf(e api.Expr, at func(place int) api.Value) (int, api.Errno) {
	v, code := comesTo(e, at)
	if code != api.OK {
		return 0, code
	}
	return value.Is(v)
}

// joined: what And or Or makes of its parts. Behind one that settles it, none is asked.
func joined(subs []api.Expr, at func(place int) api.Value, settles int, join func(l ...int) (int, api.Errno)) (api.Value, api.Errno) {
	var truths [2]int
	for i, sub := range subs {
		t, code := truthOf(sub, at)
		if code != api.OK {
			return api.Value{}, code
		}
		if t == settles {
			return value.Of(t)
		}
		truths[i] = t
	}
	return asValue(join(truths[:]...))
}

// asValue: a truth value as a value, if it was not refused.
func asValue(t int, code api.Errno) (api.Value, api.Errno) {
	if code != api.OK {
		return api.Value{}, code
	}
	return value.Of(t)
}

// ofParts: what an expression comes to whose parts came to these values.
func ofParts(op int, parts []api.Value) (api.Value, api.Errno) {
	switch {
	case op == api.Not:
		return opposite(parts[0])
	case op == api.IsNull:
		return value.Of(yesIf(isNull(parts[0])))
	case op == api.IsSome:
		return value.Of(yesIf(!isNull(parts[0])))
	case op >= api.Equal && op <= api.Least:
		return asValue(value.Compare(op, parts[0], parts[1]))
	}
	return number(op, parts)
}

// isNull: values may be here, so that there is but one Null.
func isNull(v api.Value) bool {
	return v == api.Value{}
}

func yesIf(so bool) int {
	if so {
		return api.Yes
	}
	return api.No
}

// opposite: what Not makes of a value.
func opposite(v api.Value) (api.Value, api.Errno) {
	t, code := value.Is(v)
	if code != api.OK {
		return api.Value{}, code
	}
	return asValue(value.Not(t))
}

// number: what is reckoned of Ints. A part of another type is told even beside a Null.
func number(op int, parts []api.Value) (api.Value, api.Errno) {
	if slices.ContainsFunc(parts, func(v api.Value) bool { return !isNull(v) && v.Kind != api.Int }) {
		return api.Value{}, api.ErrType
	}
	if slices.ContainsFunc(parts, isNull) {
		return api.Value{}, api.OK
	}
	n, code := reckon(op, parts[0].Int, parts[len(parts)-1].Int)
	if code != api.OK {
		return api.Value{}, code
	}
	return api.Value{Kind: api.Int, Int: n}, api.OK
}

// reckon: b is not looked at, where there is one part.
func reckon(op, a, b int) (int, api.Errno) {
	switch op {
	case api.Neg:
		return num.Neg(a)
	case api.Plus:
		return num.Add(a, b)
	case api.Minus:
		return num.Sub(a, b)
	case api.Times:
		return num.Mul(a, b)
	case api.Over:
		return num.Div(a, b)
	}
	return num.Mod(a, b)
}
