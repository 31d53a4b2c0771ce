package exec

import (
	"bytes"
	"slices"
	"testing"

	"commonhold/api"
)

// pairOf: a row as it was, and as it is to be.
type pairOf struct{ was, is []api.Value }

// with: a row, and the same with new values in places.
func with(was []api.Value, changes map[int]api.Value) pairOf {
	is := slices.Clone(was)
	for place, v := range changes {
		is[place] = v
	}
	return pairOf{was, is}
}

// rewritten: the writes of rows that are changed.
func rewritten(l []api.Table, table int, pairs ...pairOf) []api.Write {
	var w []api.Write
	for _, p := range pairs {
		was, is := entriesWanted(l, table, p.was), entriesWanted(l, table, p.is)
		w = append(w, puts(is[0])...)
		for i := 1; i < len(is); i++ {
			if !bytes.Equal(was[i].Key, is[i].Key) {
				w = append(append(w, drops(was[i])...), puts(is[i])...)
			}
		}
	}
	return w
}

// updated: what an update writes, and that Apply makes the rows of it that there are to be.
func updated(t *testing.T, source string, table int, read []api.Range, pairs ...pairOf) {
	t.Helper()
	l, rows := tables(t), some()
	writes := rewritten(l, table, pairs...)
	check(t, rows, source, api.Answer{Count: len(pairs), Reads: read, Writes: writes})
	for _, p := range pairs {
		i := slices.IndexFunc(rows[table], func(r []api.Value) bool { return slices.Equal(r, p.was) })
		rows[table][i] = p.is
	}
	if got, code := Apply(snapOf(l, some()), writes); code != api.OK || !alikeEntries(got, snapOf(l, rows)) {
		t.Errorf("behind %q: %s, %d", source, brief(got), code)
	}
}

// P16.8: one change; no index is touched, or one, or both.
func TestUpdate(t *testing.T) {
	r := some()[tableT]
	one := reads(span(tableT, 0, whole(1)))
	c, d, b := with(r[0], map[int]api.Value{2: truth(0)}), with(r[0], map[int]api.Value{3: whole(11)}), with(r[0], map[int]api.Value{1: words("z")})
	for _, x := range []struct {
		source string
		pair   pairOf
		writes int
	}{
		{"update t set c = false where a = 1", c, 1}, {"update t set d = d + 1 where a = 1", d, 5}, {"update t set b = 'z' where a = 1", b, 3},
		{"update t set b = null where a = 1", with(r[0], map[int]api.Value{1: null}), 3}, {"update t set d = null where a = 1", with(r[0], map[int]api.Value{3: null}), 5},
		{"update t set b = 'z' , d = 11 where a = 1", with(r[0], map[int]api.Value{1: words("z"), 3: whole(11)}), 5},
		{"update t set c = c where a = 1", with(r[0], nil), 1}, {"update t set d = d , b = 'a' where a = 1", with(r[0], nil), 1},
	} {
		updated(t, x.source, tableT, one, x.pair)
		if n := len(rewritten(tables(t), tableT, x.pair)); n != x.writes {
			t.Errorf("%q: %d writes", x.source, n)
		}
	}
	u := some()[tableU]
	updated(t, "update u set z = x * 2 where y = 'k'", tableU, reads(span(tableU, 0, words("k"))), with(u[0], map[int]api.Value{2: whole(20)}))
}

// P16.8: to the byte: the first entry, then of an index what was, Gone, and what is.
func TestUpdateBytes(t *testing.T) {
	head := "\x04\x80\x00\x00\x00\x00\x00\x00\x02\x04\x80\x00\x00\x00\x00\x00\x00"
	check(t, some(), "update w set g = 'off' where k = 'q'", api.Answer{
		Count: 1,
		Reads: reads(api.Range{Low: []byte(head + "\x00\x05q\x00\x01"), High: []byte(head + "\x00\x05q\x00\x02")}),
		Writes: []api.Write{
			{Key: []byte(head + "\x00\x05q\x00\x01"), Value: []byte("\x05q\x00\x01\x05off\x00\x01\x01\x04\x80\x00\x00\x00\x00\x00\x00\x02")},
			{Key: []byte(head + "\x01\x05on\x00\x01\x05q\x00\x01"), Gone: true},
			{Key: []byte(head + "\x01\x05off\x00\x01\x05q\x00\x01")},
		},
	})
}

// P16.8: several rows, in the order of their first entries, however they were read; none; all.
func TestUpdateRows(t *testing.T) {
	r := some()[tableT]
	zero := map[int]api.Value{3: whole(0)}
	all := reads(span(tableT, 0))
	updated(t, "update t set d = 0", tableT, all, with(r[0], zero), with(r[1], zero), with(r[2], zero), with(r[3], zero), with(r[4], zero))
	updated(t, "update t set d = 0 where d > 0", tableT, by(between(behind(keyOf(tableT, 1, whole(0))), behind(keyOf(tableT, 1))), 1, 4, 2), with(r[0], zero), with(r[1], zero), with(r[3], zero))
	updated(t, "update t set d = 0 where b = 'b'", tableT, by(span(tableT, 2, words("b")), 7, 2), with(r[1], zero), with(r[4], zero))
	updated(t, "update t set d = 0 where a = 9", tableT, reads(span(tableT, 0, whole(9))))
	updated(t, "update t set d = 0 where b = 'x'", tableT, reads(span(tableT, 2, words("x"))))
	updated(t, "update t set d = 10 where d = 20", tableT, by(span(tableT, 1, whole(20)), 2), with(r[1], map[int]api.Value{3: whole(10)}))
	updated(t, "update t set d = 0 where not c and 1 / ( a - 4 ) = 0", tableT, all, with(r[4], zero))
}

// P16.8: each change is asked of the row as it was.
func TestUpdateReadsWhatWas(t *testing.T) {
	w := some()[tableW][0]
	one := reads(span(tableW, 0, words("p")))
	swapped := with(w, map[int]api.Value{1: words("x"), 2: words("on")})
	updated(t, "update w set g = h , h = g where k = 'p'", tableW, one, swapped)
	updated(t, "update w set h = g , g = h where k = 'p'", tableW, one, swapped)
	r := some()[tableT]
	for _, sets := range []string{"c = d > 10 , d = d + 1 , b = 'c'", "d = d + 1 , b = 'c' , c = d > 10"} {
		updated(t, "update t set "+sets+" where d = 10", tableT, by(span(tableT, 1, whole(10)), 1, 4),
			with(r[0], map[int]api.Value{1: words("c"), 2: truth(0), 3: whole(11)}), with(r[3], map[int]api.Value{1: words("c"), 2: truth(0), 3: whole(11)}))
	}
	// A row that comes to what another one had is not asked again.
	updated(t, "update t set d = d + 10 where d >= 10", tableT, by(between(keyOf(tableT, 1, whole(10)), behind(keyOf(tableT, 1))), 1, 4, 2),
		with(r[0], map[int]api.Value{3: whole(20)}), with(r[1], map[int]api.Value{3: whole(30)}), with(r[3], map[int]api.Value{3: whole(20)}))
}

// P16.8: what Eval refuses, change by change, and what Entries refuses, row by row.
func TestUpdateRefused(t *testing.T) {
	all, ws := span(tableT, 0), span(tableW, 0)
	refused(t, some(), "update t set d = 1 / ( a - 1 )", api.ErrZero, all)
	refused(t, some(), "update t set d = 1 / ( a - 2 )", api.ErrZero, all)
	refused(t, some(), "update t set d = 1 / ( a - 7 )", api.ErrZero, all)
	refused(t, some(), "update t set d = 1 / ( a - 1 ) , c = 9223372036854775807 + a > 0", api.ErrZero, all)
	refused(t, some(), "update t set c = 9223372036854775807 + a > 0 , d = 1 / ( a - 1 )", api.ErrOver, all)
	refused(t, some(), "update t set d = 1 / ( a - 2 ) , c = 9223372036854775807 + a > 0", api.ErrOver, all)
	refused(t, some(), "update w set g = null", api.ErrNull, ws)
	refused(t, some(), "update w set g = h", api.ErrNull, ws)
	refused(t, some(), "update w set n = n + 1", api.ErrOver, ws)
	// Of row q Entries refuses, of row r, behind it, Eval.
	refused(t, some(), "update w set g = h , n = n + 1", api.ErrNull, ws)
	refused(t, some(), "update w set n = n + 1 , g = h", api.ErrNull, ws)
	refused(t, some(), "update w set n = n + 1 , g = h where n <> 2", api.ErrOver, ws)
	refused(t, some(), "update w set n = 10 / ( n - 1 ) , g = h", api.ErrZero, ws)
	// Of one row all changes are asked ahead of that.
	refused(t, some(), "update w set g = null , n = 1 / 0", api.ErrZero, ws)
	refused(t, some(), "update w set g = h , n = 1 / ( n - 2 )", api.ErrZero, ws)
	updated(t, "update w set g = null , n = 1 / 0 where k = 'x'", tableW, reads(span(tableW, 0, words("x"))))
	// What is refused of a conjunct of a later row comes first.
	refused(t, some(), "update t set d = 9223372036854775807 + a where 1 / ( a - 7 ) < 1", api.ErrZero, all)
}

// deleted: what a delete writes, and that Apply leaves the other rows.
func deleted(t *testing.T, source string, table int, read []api.Range, rows ...[]api.Value) {
	t.Helper()
	l, left := tables(t), some()
	var writes []api.Write
	for _, r := range rows {
		writes = append(writes, drops(entriesWanted(l, table, r)...)...)
		left[table] = slices.DeleteFunc(left[table], func(x []api.Value) bool { return slices.Equal(x, r) })
	}
	check(t, some(), source, api.Answer{Count: len(rows), Reads: read, Writes: writes})
	if got, code := Apply(snapOf(l, some()), writes); code != api.OK || !alikeEntries(got, snapOf(l, left)) {
		t.Errorf("behind %q: %s, %d", source, brief(got), code)
	}
}

// P16.8: a delete of none, of one, of several, of all.
func TestDelete(t *testing.T) {
	r, u, w := some()[tableT], some()[tableU], some()[tableW]
	all := reads(span(tableT, 0))
	deleted(t, "delete from t", tableT, all, r...)
	deleted(t, "delete from u", tableU, reads(span(tableU, 0)), u...)
	deleted(t, "delete from w", tableW, reads(span(tableW, 0)), w...)
	deleted(t, "delete from t where false", tableT, all)
	deleted(t, "delete from t where a = 9", tableT, reads(span(tableT, 0, whole(9))))
	deleted(t, "delete from t where a = 3", tableT, reads(span(tableT, 0, whole(3))), r[2])
	deleted(t, "delete from t where d > 0", tableT, by(between(behind(keyOf(tableT, 1, whole(0))), behind(keyOf(tableT, 1))), 1, 4, 2), r[0], r[1], r[3])
	deleted(t, "delete from t where d is null", tableT, all, r[2])
	deleted(t, "delete from w where g = 'on' and n > 1", tableW, reads(span(tableW, 1, words("on")), pointAt(tableW, words("p")), pointAt(tableW, words("q"))), w[1])
	deleted(t, "delete from u where y = 'z' and z is null", tableU, reads(span(tableU, 0, words("z"))), u[1])
}

// P16.8: what is Gone has no Value, to the byte.
func TestDeleteBytes(t *testing.T) {
	head := "\x04\x80\x00\x00\x00\x00\x00\x00\x02\x04\x80\x00\x00\x00\x00\x00\x00"
	check(t, some(), "delete from w where k = 'q'", api.Answer{
		Count: 1,
		Reads: reads(api.Range{Low: []byte(head + "\x00\x05q\x00\x01"), High: []byte(head + "\x00\x05q\x00\x02")}),
		Writes: []api.Write{
			{Key: []byte(head + "\x00\x05q\x00\x01"), Gone: true},
			{Key: []byte(head + "\x01\x05on\x00\x01\x05q\x00\x01"), Gone: true},
		},
	})
}

// P16.8: what is refused while rows are picked.
func TestDeleteRefused(t *testing.T) {
	all := span(tableT, 0)
	refused(t, some(), "delete from t where 1 / ( a - 7 ) < 1", api.ErrZero, all)
	refused(t, some(), "delete from t where c is null and 9223372036854775807 + a > 0", api.ErrOver, all)
	deleted(t, "delete from t where c is null and 9223372036854775807 - a > 0", tableT, reads(all), some()[tableT][1])
}
