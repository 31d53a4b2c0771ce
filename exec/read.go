package exec

import (
	"bytes"
	"slices"

	"commonhold/api"
	"commonhold/eval"
	"commonhold/plan"
	"commonhold/rel"
	"commonhold/row"
)

// kept: the rows, or the pairs of rows, of which all that is asked holds.
func (r *run) kept() ([][]api.Value, api.Errno) {
	where := eval.Split(r.bound.Where)
	rows := r.read(where)
	if r.bound.Other == 0 {
		return rel.Filter(rows, r.bound.Where)
	}
	others := r.readOther()
	lead := plan.Lead(where)
	return rel.Join(rows, others, slices.Concat(where[:lead], eval.Split(r.bound.On), where[lead:]))
}

// read: the rows of the table that are read, in the order of their first entries. The catalog fits and has the table, so that Choose refuses nothing.
func (r *run) read(asked []api.Expr) [][]api.Value {
	access, _ := plan.Choose(r.tables, r.bound.Table, asked)
	r.Reads = append(r.Reads, access.Range)
	if access.Index == 0 {
		return r.rowsOf(r.bound.Table, r.entriesIn(access.Range))
	}
	return r.readBy(access)
}

// readBy: the rows whose entries of an index are read, and with each of these the point of the row's first entry.
func (r *run) readBy(access api.Access) [][]api.Value {
	firsts := r.firstEntries(r.bound.Table)
	rows := r.rowsOf(r.bound.Table, firsts)
	owners := r.owners(access.Index, rows)
	var places []int
	for _, e := range r.entriesIn(access.Range) {
		place := owners[string(e.Key)]
		places = append(places, place)
		r.Reads = append(r.Reads, point(firsts[place].Key))
	}
	slices.Sort(places)
	var read [][]api.Value
	for _, place := range places {
		read = append(read, rows[place])
	}
	return read
}

// owners: which row an entry of an index is of: by the entry's key the row's place among the rows.
func (r *run) owners(index int, rows [][]api.Value) map[string]int {
	owners := map[string]int{}
	for place, values := range rows {
		owners[string(r.entriesOf(values)[index].Key)] = place
	}
	return owners
}

// readOther: the rows of the other table, all of which are read.
func (r *run) readOther() [][]api.Value {
	other := r.bound.Other - 1
	r.Reads = append(r.Reads, spanOf(other))
	return r.rowsOf(other, r.firstEntries(other))
}

// firstEntries: those of all rows of a table.
func (r *run) firstEntries(table int) []api.Entry {
	return r.entriesIn(spanOf(table))
}

// entriesIn: the entries of the snapshot in a Range, in their order. There are none, where its ends have passed each other.
func (r *run) entriesIn(span api.Range) []api.Entry {
	var l []api.Entry
	for _, e := range r.snap {
		if bytes.Compare(e.Key, span.Low) >= 0 && bytes.Compare(e.Key, span.High) < 0 {
			l = append(l, e)
		}
	}
	return l
}

// rowsOf: the rows of a table whose first entries these are. They are such in a snapshot that fits, so that Read refuses nothing.
func (r *run) rowsOf(table int, firsts []api.Entry) [][]api.Value {
	var rows [][]api.Value
	for _, e := range firsts {
		values, _ := row.Read(r.tables, table, e)
		rows = append(rows, values)
	}
	return rows
}

// spanOf: where the first entries of a table stand, which there is, so that Span refuses nothing.
func spanOf(table int) api.Range {
	span, _ := row.Span(table, 0)
	return span
}

// point: the Range in which there is but one key.
func point(key []byte) api.Range {
	return api.Range{Low: copiedBytes(key), High: append(copiedBytes(key), 0)}
}
