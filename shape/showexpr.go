package shape

import "commonhold/api"

// Levels of expressions: those that bind less tightly first.
const (
	orLevel = iota
	andLevel
	notLevel
	testLevel
	sumLevel
	timesLevel
	minusLevel
	oneLevel
)

// signs: what stands between two parts.
var signs = [...]struct {
	kind  int
	text  string
	level int
}{
	api.Plus:   {api.Mark, "+", sumLevel},
	api.Minus:  {api.Mark, "-", sumLevel},
	api.Times:  {api.Mark, "*", timesLevel},
	api.Over:   {api.Mark, "/", timesLevel},
	api.Rest:   {api.Mark, "%", timesLevel},
	api.Equal:  {api.Mark, "=", testLevel},
	api.Differ: {api.Mark, "<>", testLevel},
	api.Less:   {api.Mark, "<", testLevel},
	api.Most:   {api.Mark, "<=", testLevel},
	api.More:   {api.Mark, ">", testLevel},
	api.Least:  {api.Mark, ">=", testLevel},
	api.And:    {api.Word, "and", andLevel},
	api.Or:     {api.Word, "or", orLevel},
}

// levelOf: how tightly an expression binds.
func levelOf(op int) int {
	switch op {
	case api.Not:
		return notLevel
	case api.IsNull, api.IsSome:
		return testLevel
	case api.Neg:
		return minusLevel
	}
	if partsOf(op) == 2 {
		return signs[op].level
	}
	return oneLevel
}

// expr puts an expression where any may stand.
func (w *writer) expr(e api.Expr) {
	w.exprFrom(orLevel, e)
}

// exprFrom puts an expression where one of this level may stand, or one that binds more tightly: any other one is put in ( ).
func (w *writer) exprFrom(level int, e api.Expr) {
	if levelOf(e.Op) < level {
		w.mark("(")
		defer w.mark(")")
	}
	switch e.Op {
	case api.Const:
		w.constant(e.Value)
	case api.Named:
		w.named(e.Table, e.Name)
	case api.Neg:
		w.mark("-")
		w.exprFrom(minusLevel, e.Subs[0])
	case api.Not:
		w.words("not")
		w.exprFrom(notLevel, e.Subs[0])
	case api.IsNull:
		w.exprFrom(sumLevel, e.Subs[0])
		w.words("is", "null")
	case api.IsSome:
		w.exprFrom(sumLevel, e.Subs[0])
		w.words("is", "not", "null")
	case api.CountAll:
		w.words("count")
		w.closed(func() { w.mark("*") })
	case api.Count, api.Sum, api.Min, api.Max:
		w.words(groupWord(e.Op))
		w.closed(func() { w.expr(e.Subs[0]) })
	default:
		w.between(e.Op, e.Subs[0], e.Subs[1])
	}
}

// between puts two parts and what stands between them.
func (w *writer) between(op int, first, second api.Expr) {
	s := signs[op]
	left := s.level
	// Of several at one level the first two go together first; but a test goes together with no other one.
	if left == testLevel {
		left = sumLevel
	}
	w.exprFrom(left, first)
	w.put(api.Token{Kind: s.kind, Text: s.text})
	w.exprFrom(s.level+1, second)
}

func groupWord(op int) string {
	switch op {
	case api.Count:
		return "count"
	case api.Sum:
		return "sum"
	case api.Min:
		return "min"
	}
	return "max"
}

func (w *writer) constant(v api.Value) {
	switch {
	case v.Kind == api.Int:
		w.number(v.Int)
	case v.Kind == api.Text:
		w.quote(v.Text)
	case v.Kind == api.Null:
		w.words("null")
	case v.Int == 0:
		w.words("false")
	default:
		w.words("true")
	}
}

func (w *writer) named(table, name string) {
	if table != "" {
		w.words(table)
		w.mark(".")
	}
	w.words(name)
}
