package shape

import "commonhold/api"

// writer puts the tokens of a statement, which may be, one behind the other.
type writer struct {
	tokens []api.Token
}

func (w *writer) put(t api.Token) {
	w.tokens = append(w.tokens, t)
}

func (w *writer) words(l ...string) {
	for _, s := range l {
		w.put(api.Token{Kind: api.Word, Text: s})
	}
}

func (w *writer) mark(s string) {
	w.put(api.Token{Kind: api.Mark, Text: s})
}

func (w *writer) number(n int) {
	w.put(api.Token{Kind: api.Number, Int: n})
}

func (w *writer) quote(s string) {
	w.put(api.Token{Kind: api.Quote, Text: s})
}

// closed puts ( ) about what a function puts.
func (w *writer) closed(inside func()) {
	w.mark("(")
	defer w.mark(")")
	inside()
}

// row puts a list, with a , between each two of its elements.
func row[T any](w *writer, l []T, one func(T)) {
	for i, x := range l {
		if i > 0 {
			w.mark(",")
		}
		one(x)
	}
}

// rowBehind puts words and a list behind them, or nothing where the list is empty.
func rowBehind[T any](w *writer, l []T, one func(T), words ...string) {
	if len(l) == 0 {
		return
	}
	w.words(words...)
	row(w, l, one)
}

func (w *writer) statement(s api.Statement) {
	switch s.Kind {
	case api.MakeTable:
		w.makeTable(s)
	case api.MakeIndex:
		w.makeIndex(s)
	case api.Insert:
		w.insert(s)
	case api.Update:
		w.update(s)
	case api.Delete:
		w.delete(s)
	case api.Select:
		w.choose(s)
	}
}

func (w *writer) makeTable(s api.Statement) {
	w.words("create", "table", s.Table)
	w.closed(func() {
		row(w, s.Columns, w.column)
		w.mark(",")
		w.words("primary", "key")
		w.names(s.Names)
	})
}

func (w *writer) makeIndex(s api.Statement) {
	w.words("create", "index", s.Name, "on", s.Table)
	w.names(s.Names)
}

func (w *writer) insert(s api.Statement) {
	w.words("insert", "into", s.Table, "values")
	w.closed(func() { row(w, s.Values, w.expr) })
}

func (w *writer) update(s api.Statement) {
	w.words("update", s.Table, "set")
	row(w, s.Sets, func(set api.Set) {
		w.words(set.Name)
		w.mark("=")
		w.expr(set.Expr)
	})
	w.where(s.Where)
}

func (w *writer) delete(s api.Statement) {
	w.words("delete", "from", s.Table)
	w.where(s.Where)
}

// choose puts a select.
func (w *writer) choose(s api.Statement) {
	w.words("select")
	if len(s.Values) == 0 {
		w.mark("*")
	}
	row(w, s.Values, w.expr)
	w.words("from", s.Table)
	if s.Other != "" {
		w.words("join", s.Other, "on")
		w.expr(s.On)
	}
	w.where(s.Where)
	rowBehind(w, s.Groups, w.expr, "group", "by")
	rowBehind(w, s.Orders, w.order, "order", "by")
	if s.Limited {
		w.words("limit")
		w.number(s.Limit)
	}
}

func (w *writer) where(e api.Expr) {
	if isNone(e) {
		return
	}
	w.words("where")
	w.expr(e)
}

func (w *writer) column(c api.Column) {
	w.words(c.Name, typeWord(c.Type))
	if c.NotNull {
		w.words("not", "null")
	}
}

func typeWord(kind int) string {
	switch kind {
	case api.Truth:
		return "truth"
	case api.Int:
		return "int"
	}
	return "text"
}

func (w *writer) names(l []string) {
	w.closed(func() {
		row(w, l, func(name string) { w.words(name) })
	})
}

func (w *writer) order(o api.Order) {
	w.number(o.Item)
	if o.Down {
		w.words("desc")
	}
}
