package parse

import "commonhold/api"

// operators: those that stand between two parts.
var operators = [...]struct {
	sign string
	op   int
}{
	{"+", api.Plus}, {"-", api.Minus},
	{"*", api.Times}, {"/", api.Over}, {"%", api.Rest},
	{"=", api.Equal}, {"<>", api.Differ}, {"<", api.Less}, {"<=", api.Most}, {">", api.More}, {">=", api.Least},
	{"and", api.And}, {"or", api.Or},
}

// opOf: what an operator is; 0: there is none.
func opOf(sign string) int {
	for _, o := range operators {
		if o.sign == sign {
			return o.op
		}
	}
	return 0
}

// made: an expression of parts.
func made(op int, subs ...api.Expr) api.Expr {
	return api.Expr{Op: op, Subs: subs}
}

func constant(v api.Value) api.Expr {
	return api.Expr{Op: api.Const, Value: v}
}

// leftward reads parts with some of these operators between them. Of several the first two go together first.
func (r *reader) leftward(part func() api.Expr, signs ...string) api.Expr {
	e := part()
	for {
		op := opOf(r.anyOf(signs...))
		if op == 0 {
			return e
		}
		e = made(op, e, part())
	}
}

func (r *reader) expr() api.Expr {
	return r.leftward(r.both, "or")
}

func (r *reader) both() api.Expr {
	return r.leftward(r.no, "and")
}

func (r *reader) no() api.Expr {
	if r.may("not") {
		return made(api.Not, r.no())
	}
	return r.test()
}

// test reads one test at most: a second one behind it is left, and refused.
func (r *reader) test() api.Expr {
	e := r.sum()
	if op := opOf(r.anyOf("=", "<>", "<", "<=", ">", ">=")); op != 0 {
		return made(op, e, r.sum())
	}
	if !r.may("is") {
		return e
	}
	if r.may("not", "null") {
		return made(api.IsSome, e)
	}
	r.need("null")
	return made(api.IsNull, e)
}

func (r *reader) sum() api.Expr {
	return r.leftward(r.times, "+", "-")
}

func (r *reader) times() api.Expr {
	return r.leftward(r.minus, "*", "/", "%")
}

func (r *reader) minus() api.Expr {
	if r.may("-") {
		return made(api.Neg, r.minus())
	}
	return r.one()
}

func (r *reader) one() api.Expr {
	switch t := r.next(); t.Kind {
	case api.Number:
		r.at++
		return constant(api.Value{Kind: api.Int, Int: t.Int})
	case api.Quote:
		r.at++
		return constant(api.Value{Kind: api.Text, Text: t.Text})
	}
	switch r.anyOf("null", "true", "false", "(", "count", "sum", "min", "max") {
	case "null":
		return constant(api.Value{})
	case "true":
		return constant(api.Value{Kind: api.Truth, Int: 1})
	case "false":
		return constant(api.Value{Kind: api.Truth})
	case "(":
		return r.closed()
	case "count":
		return r.count()
	case "sum":
		return r.of(api.Sum)
	case "min":
		return r.of(api.Min)
	case "max":
		return r.of(api.Max)
	}
	return r.columnOf()
}

// closed reads what stands behind a ( and the ) behind it.
func (r *reader) closed() api.Expr {
	e := r.expr()
	r.need(")")
	return e
}

// of reads what all rows of a group are asked, in ( ).
func (r *reader) of(op int) api.Expr {
	r.need("(")
	return made(op, r.closed())
}

func (r *reader) count() api.Expr {
	r.need("(")
	if r.may("*", ")") {
		return made(api.CountAll)
	}
	return made(api.Count, r.closed())
}

func (r *reader) columnOf() api.Expr {
	name := r.name()
	if r.may(".") {
		return api.Expr{Op: api.Named, Table: name, Name: r.name()}
	}
	return api.Expr{Op: api.Named, Name: name}
}
