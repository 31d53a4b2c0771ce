package parse

import "commonhold/api"

func (r *reader) statement() api.Statement {
	switch r.oneOf("create", "insert", "update", "delete", "select") {
	case "create":
		return r.create()
	case "insert":
		return r.insert()
	case "update":
		return r.update()
	case "delete":
		return r.delete()
	case "select":
		return r.choose()
	}
	return api.Statement{}
}

func (r *reader) create() api.Statement {
	switch r.oneOf("table", "index") {
	case "table":
		return r.table()
	case "index":
		return r.index()
	}
	return api.Statement{}
}

func (r *reader) table() api.Statement {
	s := api.Statement{Kind: api.MakeTable, Table: r.name()}
	r.need("(")
	s.Columns = list(r.column, r.moreColumns)
	r.need("primary", "key")
	s.Names = r.names()
	r.need(")")
	return s
}

func (r *reader) index() api.Statement {
	s := api.Statement{Kind: api.MakeIndex, Name: r.name()}
	r.need("on")
	s.Table = r.name()
	s.Names = r.names()
	return s
}

func (r *reader) insert() api.Statement {
	r.need("into")
	s := api.Statement{Kind: api.Insert, Table: r.name()}
	r.need("values", "(")
	s.Values = r.exprs()
	r.need(")")
	return s
}

func (r *reader) update() api.Statement {
	s := api.Statement{Kind: api.Update, Table: r.name()}
	r.need("set")
	s.Sets = list(r.set, r.comma)
	s.Where = r.where()
	return s
}

func (r *reader) delete() api.Statement {
	r.need("from")
	s := api.Statement{Kind: api.Delete, Table: r.name()}
	s.Where = r.where()
	return s
}

// choose reads a select.
func (r *reader) choose() api.Statement {
	s := api.Statement{Kind: api.Select}
	if !r.may("*") {
		s.Values = r.exprs()
	}
	r.need("from")
	s.Table = r.name()
	if r.may("join") {
		s.Other = r.name()
		r.need("on")
		s.On = r.expr()
	}
	s.Where = r.where()
	if r.may("group", "by") {
		s.Groups = list(r.columnOf, r.comma)
	}
	if r.may("order", "by") {
		s.Orders = list(r.order, r.comma)
	}
	if r.may("limit") {
		s.Limited = true
		s.Limit = r.number()
	}
	return s
}

// where reads the condition behind where; none is an Expr that is zero.
func (r *reader) where() api.Expr {
	if !r.may("where") {
		return api.Expr{}
	}
	return r.expr()
}

func (r *reader) column() api.Column {
	c := api.Column{Name: r.name()}
	c.Type = r.columnType()
	c.NotNull = r.may("not", "null")
	return c
}

func (r *reader) columnType() int {
	switch r.oneOf("truth", "int", "text") {
	case "truth":
		return api.Truth
	case "int":
		return api.Int
	case "text":
		return api.Text
	}
	return api.Null
}

// moreColumns: behind each column stands a , since behind the last one the key does; only what comes then tells which it is.
func (r *reader) moreColumns() bool {
	r.need(",")
	return isName(r.next())
}

func (r *reader) names() []string {
	r.need("(")
	l := list(r.name, r.comma)
	r.need(")")
	return l
}

func (r *reader) exprs() []api.Expr {
	return list(r.expr, r.comma)
}

func (r *reader) set() api.Set {
	s := api.Set{Name: r.name()}
	r.need("=")
	s.Expr = r.expr()
	return s
}

func (r *reader) order() api.Order {
	o := api.Order{Item: r.number()}
	o.Down = r.may("desc")
	return o
}
