package exec

import (
	"fmt"
	"slices"
	"testing"

	"commonhold/api"
)

// between: the keys from one of an index on, ahead of another one.
func between(low, high []byte) api.Range { return api.Range{Low: low, High: high} }

// points: those of rows of t, by their keys.
func points(l ...int) []api.Range {
	var r []api.Range
	for _, a := range l {
		r = append(r, pointAt(tableT, whole(a)))
	}
	return r
}

// P16.4: no Where, one conjunct, several: each guards those behind it.
func TestAskedOfOneTable(t *testing.T) {
	all := span(tableT, 0)
	selected(t, some(), "select a from t", numbers(1, 2, 3, 4, 7), all)
	selected(t, some(), "select a from t where c", numbers(1, 4), all)
	selected(t, some(), "select a from t where c and d = 10 and a < 4", numbers(1), all)
	selected(t, some(), "select a from t where a <> 4 and 1 / ( a - 4 ) <= 1", numbers(1, 2, 3, 7), all)
	refused(t, some(), "select a from t where 1 / ( a - 4 ) <= 1 and a <> 4", api.ErrZero, all)
	selected(t, some(), "select a from t where a <> 4 and ( a <> 3 and 12 / ( ( a - 4 ) * ( a - 3 ) ) = 1 )", numbers(7), all)
	selected(t, some(), "select a from t where ( a <> 4 and a <> 3 ) and 12 / ( ( a - 4 ) * ( a - 3 ) ) = 1", numbers(7), all)
	refused(t, some(), "select a from t where a <> 4 and ( 12 / ( ( a - 4 ) * ( a - 3 ) ) = 1 and a <> 3 )", api.ErrZero, all)
	// What is unknown ends it, too.
	selected(t, some(), "select a from t where null and 1 / 0 = 1", nil, all)
	selected(t, some(), "select a from t where b <> null and 1 / 0 = 1", nil, all)
	// An Or is one conjunct.
	selected(t, some(), "select a from t where a = 4 or 1 / ( a - 4 ) = 0", numbers(1, 2, 4, 7), all)
	refused(t, some(), "select a from t where 1 / ( a - 4 ) = 0 or a = 4", api.ErrZero, all)
}

// P16.4: of an update and a delete the same.
func TestAskedOfChanges(t *testing.T) {
	all := reads(span(tableT, 0))
	refused(t, some(), "update t set d = 0 where 1 / ( a - 4 ) = 5 and a <> 4", api.ErrZero, all...)
	refused(t, some(), "delete from t where 1 / ( a - 4 ) = 5 and a <> 4", api.ErrZero, all...)
	check(t, some(), "update t set d = 0 where a <> 4 and 1 / ( a - 4 ) = 5", api.Answer{Reads: all})
	check(t, some(), "delete from t where a <> 4 and 1 / ( a - 4 ) = 5", api.Answer{Reads: all})
}

// P16.4: with an Other first those of Where ahead of the first one that is not simple, then On, then the others of Where.
func TestAskedOfPairs(t *testing.T) {
	both := reads(span(tableT, 0), span(tableU, 0))
	// A simple one of Where guards On, whichever table it is of.
	one := rowsOf(rowWith(whole(1), whole(5)), rowWith(whole(2), whole(5)), rowWith(whole(3), whole(5)), rowWith(whole(4), whole(5)), rowWith(whole(7), whole(5)))
	selected(t, some(), "select a , z from t join u on 10 / z = 2 where z > 0", one, both...)
	selected(t, some(), "select a , z from t join u on 10 / z = 2 where 0 < z", one, both...)
	selected(t, some(), "select a , z from t join u on 10 / z = 2 where z > 0 and a <> 9", one, both...)
	refused(t, some(), "select a , z from t join u on 10 / z = 2", api.ErrZero, both...)
	// One that is not simple does not, and neither does a simple one behind it.
	refused(t, some(), "select a , z from t join u on 10 / z = 2 where z <> 0", api.ErrZero, both...)
	refused(t, some(), "select a , z from t join u on 10 / z = 2 where a <> 9 and z > 0", api.ErrZero, both...)
	refused(t, some(), "select a , z from t join u on 10 / z = 2 where z + 0 > 0", api.ErrZero, both...)
	// On guards the others of Where, all of them.
	selected(t, some(), "select a , z from t join u on z <> 0 where 10 / z = 2", one, both...)
	selected(t, some(), "select a , z from t join u on z <> 0 where 10 / z = 2 and a > 0", one, both...)
	selected(t, some(), "select a , z from t join u on z <> 0 where y = 'z' and 10 / z = 2", one, both...)
	selected(t, some(), "select a , z from t join u on z <> 0 and 10 / z = 2 where y > 'a' and 10 / z < 3", one, both...)
	// On's own conjuncts come in their order.
	refused(t, some(), "select a , z from t join u on 10 / z = 2 and z <> 0 where y > 'a'", api.ErrZero, both...)
	// The first ones of Where come ahead of On even where On is simple.
	over := "select a , z from t join u on %s where %s"
	refused(t, some(), fmt.Sprintf(over, "9223372036854775807 + a = 1", "x > 0 and 1 / ( a - 1 ) = 1"), api.ErrOver, both...)
	refused(t, some(), fmt.Sprintf(over, "x > 0", "9223372036854775807 + a = 1 and 1 / ( a - 1 ) = 1"), api.ErrOver, both...)
	refused(t, some(), fmt.Sprintf(over, "1 / ( a - 1 ) = 1", "x > 0 and 9223372036854775807 + a = 1"), api.ErrZero, both...)
	selected(t, some(), fmt.Sprintf(over, "9223372036854775807 + a = 1", "y = 'nowhere' and 1 / ( a - 1 ) = 1"), nil, both...)
}

// P16.5: by the Key.
func TestReadByKey(t *testing.T) {
	k := func(l ...api.Value) []byte { return keyOf(tableT, 0, l...) }
	selected(t, some(), "select a from t where a = 3", numbers(3), span(tableT, 0, whole(3)))
	selected(t, some(), "select a from t where 3 = a", numbers(3), span(tableT, 0, whole(3)))
	selected(t, some(), "select a from t where a = 5", nil, span(tableT, 0, whole(5)))
	selected(t, some(), "select a from t where a = 3 and a = 4", nil, span(tableT, 0, whole(3)))
	selected(t, some(), "select a from t where a > 2 and a <= 4", numbers(3, 4), between(behind(k(whole(2))), behind(k(whole(4)))))
	selected(t, some(), "select a from t where a >= 2 and a < 4", numbers(2, 3), between(k(whole(2)), k(whole(4))))
	selected(t, some(), "select a from t where 4 < a", numbers(7), between(behind(k(whole(4))), behind(k())))
	selected(t, some(), "select a from t where a > 4 and a < 2", nil, between(behind(k(whole(4))), k(whole(2))))
	selected(t, some(), "select a from t where a > 7", nil, between(behind(k(whole(7))), behind(k())))
	u := func(l ...api.Value) []byte { return keyOf(tableU, 0, l...) }
	selected(t, some(), "select x from u where y = 'z'", numbers(-1, 10, 20), span(tableU, 0, words("z")))
	selected(t, some(), "select x from u where y = 'z' and x > 0", numbers(10, 20), between(behind(u(words("z"), whole(0))), behind(u(words("z")))))
	selected(t, some(), "select z from u where x = 10 and y = 'k'", numbers(7), span(tableU, 0, words("k"), whole(10)))
	selected(t, some(), "select z from u where x = 10", numbers(7, 0), span(tableU, 0))
	// Where is read from the first one that is not simple on only by what is asked of each row.
	selected(t, some(), "select a from t where a <> 9 and a = 3", numbers(3), span(tableT, 0))
	selected(t, some(), "select a from t where a < 4 and c and a > 0", numbers(1), between(k(), k(whole(4))))
}

// by: a Range of an index of t, and the points of rows behind it.
func by(r api.Range, l ...int) []api.Range { return append(reads(r), points(l...)...) }

// P16.5: by an index: its entries in their order, each with the point of its row; the rows in the order of their own first entries.
func TestReadByIndex(t *testing.T) {
	d := func(l ...api.Value) []byte { return keyOf(tableT, 1, l...) }
	b := func(l ...api.Value) []byte { return keyOf(tableT, 2, l...) }
	selected(t, some(), "select a from t where d = 10", numbers(1, 4), by(span(tableT, 1, whole(10)), 1, 4)...)
	selected(t, some(), "select a from t where d = 20", numbers(2), by(span(tableT, 1, whole(20)), 2)...)
	selected(t, some(), "select a from t where d > 0", numbers(1, 2, 4), by(between(behind(d(whole(0))), behind(d())), 1, 4, 2)...)
	selected(t, some(), "select a from t where d >= 20", numbers(2), by(between(d(whole(20)), behind(d())), 2)...)
	// Nulls stand ahead of all else: they are read, but not kept.
	selected(t, some(), "select a from t where d < 100", numbers(1, 2, 4, 7), by(between(d(), d(whole(100))), 3, 7, 1, 4, 2)...)
	selected(t, some(), "select a from t where d <= 10", numbers(1, 4, 7), by(between(d(), behind(d(whole(10)))), 3, 7, 1, 4)...)
	// Two columns, one or both of them fixed, and bounded.
	selected(t, some(), "select a from t where b = 'b'", numbers(2, 7), by(span(tableT, 2, words("b")), 7, 2)...)
	selected(t, some(), "select a from t where b = 'a'", numbers(1, 3), by(span(tableT, 2, words("a")), 3, 1)...)
	selected(t, some(), "select a from t where b = 'b' and d = 20", numbers(2), by(span(tableT, 2, words("b"), whole(20)), 2)...)
	selected(t, some(), "select a from t where d > 0 and b = 'a'", numbers(1), by(between(behind(b(words("a"), whole(0))), behind(b(words("a")))), 1)...)
	selected(t, some(), "select a from t where b > 'a'", numbers(2, 7), by(between(behind(b(words("a"))), behind(b())), 7, 2)...)
	selected(t, some(), "select a from t where b <= 'b'", numbers(1, 2, 3, 7), by(between(b(), behind(b(words("b")))), 4, 3, 1, 7, 2)...)
	selected(t, some(), "select k from w where g = 'on'", rowsOf(rowWith(words("p")), rowWith(words("q"))), span(tableW, 1, words("on")), pointAt(tableW, words("p")), pointAt(tableW, words("q")))
}

// P16.5: nothing in the Range: no point is read.
func TestReadNothing(t *testing.T) {
	d := func(n int) []byte { return keyOf(tableT, 1, whole(n)) }
	selected(t, some(), "select a from t where d = 11", nil, span(tableT, 1, whole(11)))
	selected(t, some(), "select a from t where d > 20", nil, between(behind(d(20)), behind(keyOf(tableT, 1))))
	selected(t, some(), "select a from t where d > 10 and d < 20", nil, between(behind(d(10)), d(20)))
	// The ends have passed each other.
	selected(t, some(), "select a from t where d > 20 and d < 10", nil, between(behind(d(20)), d(10)))
	selected(t, some(), "select a from t where d >= 20 and d <= 10", nil, between(d(20), behind(d(10))))
	selected(t, some(), "select a from t where d > 10 and d < 10", nil, between(behind(d(10)), d(10)))
	selected(t, some(), "select a from t where d = 10 and d = 20", nil, by(span(tableT, 1, whole(10)), 1, 4)...)
}

// P16.5: only what is ahead of the first one that is not simple counts (a number below 0 is none).
func TestReadByLead(t *testing.T) {
	all := span(tableT, 0)
	selected(t, some(), "select a from t where d = - 5", numbers(7), all)
	selected(t, some(), "select a from t where d is null and d = 10", nil, all)
	selected(t, some(), "select a from t where c and d = 10", numbers(1, 4), all)
	selected(t, some(), "select a from t where ( d = 10 or d = 20 ) and d = 10", numbers(1, 4), all)
	selected(t, some(), "select a from t where d = 10 and b is null", numbers(4), by(span(tableT, 1, whole(10)), 1, 4)...)
	selected(t, some(), "select a from t where d = 10 and b is null and a = 4", numbers(4), by(span(tableT, 1, whole(10)), 1, 4)...)
	selected(t, some(), "select a from t where ( d = 10 and a > 0 ) and b is null", numbers(4), by(span(tableT, 1, whole(10)), 1, 4)...)
}

// P16.5: with an Other all of that table is read, as the last one, whatever is asked of it.
func TestReadOther(t *testing.T) {
	other := span(tableU, 0)
	ones := append(by(span(tableT, 1, whole(10)), 1, 4), other)
	selected(t, some(), "select a , z from t join u on x = d where d = 20", rowsOf(rowWith(whole(2), whole(5))), append(by(span(tableT, 1, whole(20)), 2), other)...)
	selected(t, some(), "select a , z from t join u on x = d where d = 10 and z > 0", rowsOf(rowWith(whole(1), whole(7)), rowWith(whole(4), whole(7))), ones...)
	selected(t, some(), "select a , z from t join u on x = d where z > 0 and d = 10", rowsOf(rowWith(whole(1), whole(7)), rowWith(whole(4), whole(7))), ones...)
	selected(t, some(), "select a , z from t join u on x = d and y = 'k' where d = 10", rowsOf(rowWith(whole(1), whole(7)), rowWith(whole(4), whole(7))), ones...)
	selected(t, some(), "select a from t join u on x = d where d = 11", nil, span(tableT, 1, whole(11)), other)
	selected(t, some(), "select a from t join u on true where a = 1 and y = 'k'", numbers(1), span(tableT, 0, whole(1)), other)
	// What limits columns of the other table limits none of the first one, even if that is the one with indexes.
	selected(t, some(), "select x , a from u join t on x = d where d = 20", rowsOf(rowWith(whole(20), whole(2))), other, span(tableT, 0))
	selected(t, some(), "select x , k from u join w on x = 20 where g = 'off' and y = 'z'", rowsOf(rowWith(whole(20), words("r"))), span(tableU, 0, words("z")), span(tableW, 0))
	// On is not looked at, when it is chosen what is read.
	selected(t, some(), "select a , z from t join u on d = 20 and x = d", rowsOf(rowWith(whole(2), whole(5))), span(tableT, 0), other)
	selected(t, some(), "select a , z from t join u on d = 20 and x = d where c is null", rowsOf(rowWith(whole(2), whole(5))), span(tableT, 0), other)
}

// P16.5: updates and deletes read as selects do.
func TestReadOfChanges(t *testing.T) {
	for where, want := range map[string][]api.Range{
		"":                                   reads(span(tableT, 0)),
		"where a = 9":                        reads(span(tableT, 0, whole(9))),
		"where d = 10 and c is null":         by(span(tableT, 1, whole(10)), 1, 4),
		"where b = 'b' and a = a + 1":        by(span(tableT, 2, words("b")), 7, 2),
		"where d > 20":                       reads(between(behind(keyOf(tableT, 1, whole(20))), behind(keyOf(tableT, 1)))),
		"where b = 'b' and d = 20 and a = 1": reads(span(tableT, 2, words("b"), whole(20)), pointAt(tableT, whole(2))),
	} {
		l := tables(t)
		snap := snapOf(l, some())
		for _, source := range []string{"select a from t ", "update t set d = 3 ", "delete from t "} {
			if got := Run(l, snap, statement(t, source+where)); got.Code != api.OK || !alikeRanges(got.Reads, want) {
				t.Errorf("%s%s: %d, %s", source, where, got.Code, brief(got.Reads))
			}
		}
	}
}

// P16.6: rows that are kept; what is unknown is not.
func TestKept(t *testing.T) {
	all := span(tableT, 0)
	selected(t, some(), "select a from t where not c", numbers(3, 7), all)
	selected(t, some(), "select a from t where c is null", numbers(2), all)
	selected(t, some(), "select a from t where d + a > 10", numbers(1, 2, 4), all)
	selected(t, some(), "select a from t where true", numbers(1, 2, 3, 4, 7), all)
	selected(t, some(), "select a from t where false", nil, all)
	selected(t, some(), "select a from t where null", nil, all)
	selected(t, some(), "select a from t where 1 < 2", numbers(1, 2, 3, 4, 7), all)
	selected(t, some(), "select a from t where b = null", nil, all)
}

// P16.6: what is refused ends it, of the first row of which something is; a row that was dropped is not asked on.
func TestKeptRefused(t *testing.T) {
	all := span(tableT, 0)
	refused(t, some(), "select a from t where c and 1 / ( a - 4 ) = 0", api.ErrZero, all)
	selected(t, some(), "select a from t where not c and 1 / ( a - 4 ) = 0", numbers(7), all)
	refused(t, some(), "select a from t where 1 / ( a - 1 ) = 1 and a > 4", api.ErrZero, all)
	refused(t, some(), "select a from t where 1 / ( a - 7 ) = 1 and a > 4", api.ErrZero, all)
	// Of row 3 a number runs over; of rows ahead of it, and behind it, something is divided by 0.
	refused(t, some(), "select a from t where 1 / ( a - 4 ) < 5 and 9223372036854775807 - ( 2 - a ) > 0", api.ErrOver, all)
	refused(t, some(), "select a from t where 1 / ( a - 2 ) < 5 and 9223372036854775807 - ( 2 - a ) > 0", api.ErrZero, all)
	refused(t, some(), "select a from t where 1 / ( a - 3 ) < 5 and 9223372036854775807 - ( 2 - a ) > 0", api.ErrZero, all)
	refused(t, some(), "select a from t where 9223372036854775807 - ( 2 - a ) > 0 and 1 / ( a - 3 ) < 5", api.ErrOver, all)
	// In the order of the index row 7, of which a number runs over, would come first.
	d := between(keyOf(tableT, 1), keyOf(tableT, 1, whole(100)))
	refused(t, some(), "select a from t where d < 100 and 1 / ( a - 4 ) < 5 and 9223372036854775807 - ( 6 - a ) > 0", api.ErrZero, by(d, 3, 7, 1, 4, 2)...)
	refused(t, some(), "delete from t where d < 100 and 1 / ( a - 4 ) < 5 and 9223372036854775807 - ( 6 - a ) > 0", api.ErrZero, by(d, 3, 7, 1, 4, 2)...)
}

// P16.6: pairs, in the order of the first table's rows, then of the other one's.
func TestKeptPairs(t *testing.T) {
	both := reads(span(tableT, 0), span(tableU, 0))
	pair := func(a, x int, y string) []api.Value { return rowWith(whole(a), whole(x), words(y)) }
	selected(t, some(), "select a , x , y from t join u on d = x", rowsOf(pair(1, 10, "k"), pair(1, 10, "z"), pair(2, 20, "z"), pair(4, 10, "k"), pair(4, 10, "z")), both...)
	selected(t, some(), "select a , x , y from t join u on x < 0 where a < 3", rowsOf(pair(1, -1, "z"), pair(2, -1, "z")), between(keyOf(tableT, 0), keyOf(tableT, 0, whole(3))), both[1])
	selected(t, some(), "select * from u join t on x = d and z > a + 4", rowsOf(slices.Concat(some()[tableU][0], some()[tableT][0])), both[1], both[0])
	selected(t, some(), "select * from t join u on false", nil, both...)
	selected(t, some(), "select * from t join u on null", nil, both...)
	less := some()
	less[tableU] = nil
	selected(t, less, "select * from t join u on 1 / 0 = 1", nil, both...)
	less = some()
	less[tableT] = nil
	selected(t, less, "select * from t join u on 1 / 0 = 1 where 1 / 0 = 1", nil, both...)
}

// P16.6: as many pairs as there may be, and one more.
func TestKeptSoManyPairs(t *testing.T) {
	grid := func(n, m int) stock {
		var rows stock
		for i := range n {
			rows[tableT] = append(rows[tableT], rowWith(whole(i), null, null, null))
		}
		for i := range m {
			rows[tableU] = append(rows[tableU], rowWith(whole(i), words(""), null))
		}
		return rows
	}
	both := reads(span(tableT, 0), span(tableU, 0))
	const most = api.MaxRows
	selected(t, grid(20, most/20), "select count ( * ) from t join u on true", numbers(most), both...)
	refused(t, grid(3, 67), "select count ( * ) from t join u on true", api.ErrSize, both...)
	refused(t, grid(20, 20), "select a from t join u on true limit 1", api.ErrSize, both...)
	selected(t, grid(20, 20), "select count ( * ) from t join u on a * 20 + x < 200", numbers(most), both...)
	refused(t, grid(20, 20), "select count ( * ) from t join u on a * 20 + x < 201", api.ErrSize, both...)
	selected(t, grid(20, 20), "select count ( * ) from t join u on a * 20 + x >= 200", numbers(most), both...)
	// What comes first, pair by pair, is told.
	refused(t, grid(20, 20), "select count ( * ) from t join u on 1 / ( a * 20 + x - 200 ) < 2", api.ErrZero, both...)
	refused(t, grid(20, 20), "select count ( * ) from t join u on 1 / ( a * 20 + x - 201 ) < 2", api.ErrSize, both...)
	refused(t, grid(20, 20), "select count ( * ) from t join u on 1 / ( a * 20 + x - 19 ) < 2", api.ErrZero, both...)
}
