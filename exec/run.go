package exec

import (
	"bytes"

	"commonhold/api"
	"commonhold/eval"
	"commonhold/rel"
	"commonhold/row"
)

// run: a statement that is run, and its answer, as far as it has come. The catalog fits, and the snapshot fits it.
type run struct {
	api.Answer
	tables []api.Table
	snap   []api.Entry
	bound  api.Bound
}

// way: how the statement is run. Bind lets no other Kinds through.
func (r *run) way() func() api.Errno {
	switch r.bound.Kind {
	case api.Insert:
		return r.insert
	case api.Update:
		return r.update
	case api.Delete:
		return r.remove
	}
	return r.selects
}

func (r *run) insert() api.Errno {
	var values []api.Value
	for _, e := range r.bound.Values {
		v, code := eval.Eval(e, nil)
		if code != api.OK {
			return code
		}
		values = append(values, v)
	}
	entries, code := row.Entries(r.tables, r.bound.Table, values)
	if code != api.OK {
		return code
	}
	first := entries[0].Key
	r.Reads = append(r.Reads, point(first))
	if _, there := found(r.snap, first); there {
		return api.ErrTwice
	}
	for _, e := range entries {
		r.put(e)
	}
	r.Count = 1
	return api.OK
}

func (r *run) selects() api.Errno {
	kept, code := r.kept()
	if code != api.OK {
		return code
	}
	made, code := r.made(kept)
	if code != api.OK {
		return code
	}
	sorted, code := rel.Sort(made, r.bound.Orders)
	if code != api.OK {
		return code
	}
	if r.bound.Limited {
		sorted = sorted[:min(r.bound.Limit, len(sorted))]
	}
	// Anew, so that no row beyond the Limit stands in the spare room.
	r.Rows = append(r.Rows, sorted...)
	r.Count = len(r.Rows)
	return api.OK
}

// made: the rows that the Values make of the rows kept.
func (r *run) made(kept [][]api.Value) ([][]api.Value, api.Errno) {
	if r.bound.Grouped {
		return rel.Group(kept, r.bound.Groups, r.bound.Values)
	}
	return rel.Project(kept, r.bound.Values)
}

func (r *run) update() api.Errno {
	kept, code := r.kept()
	if code != api.OK {
		return code
	}
	for _, values := range kept {
		if code := r.rewrite(values); code != api.OK {
			return code
		}
	}
	r.Count = len(kept)
	return api.OK
}

// rewrite: one row with its Changes. An index in which its entry stays as it is is not written.
func (r *run) rewrite(values []api.Value) api.Errno {
	changed, code := r.changed(values)
	if code != api.OK {
		return code
	}
	entries, code := row.Entries(r.tables, r.bound.Table, changed)
	if code != api.OK {
		return code
	}
	// The Key is never changed, so that the first entry stays where it is.
	r.put(entries[0])
	for i, was := range r.entriesOf(values) {
		if i > 0 && !bytes.Equal(was.Key, entries[i].Key) {
			r.drop(was)
			r.put(entries[i])
		}
	}
	return api.OK
}

// changed: the new row. All Changes are asked of the row as it was.
func (r *run) changed(values []api.Value) ([]api.Value, api.Errno) {
	l := append([]api.Value(nil), values...)
	for _, c := range r.bound.Changes {
		v, code := eval.Eval(c.Expr, values)
		if code != api.OK {
			return nil, code
		}
		l[c.Place] = v
	}
	return l, api.OK
}

func (r *run) remove() api.Errno {
	kept, code := r.kept()
	if code != api.OK {
		return code
	}
	for _, values := range kept {
		for _, e := range r.entriesOf(values) {
			r.drop(e)
		}
	}
	r.Count = len(kept)
	return api.OK
}

// entriesOf: the entries of a row of the table that the snapshot has, so that nothing is refused.
func (r *run) entriesOf(values []api.Value) []api.Entry {
	l, _ := row.Entries(r.tables, r.bound.Table, values)
	return l
}

func (r *run) put(e api.Entry) {
	r.Writes = append(r.Writes, api.Write{Key: e.Key, Value: e.Value})
}

func (r *run) drop(e api.Entry) {
	r.Writes = append(r.Writes, api.Write{Key: e.Key, Gone: true})
}
