package exec

import (
	"fmt"
	"math"
	"slices"
	"testing"

	"commonhold/api"
)

// P16.7: not grouped: of each row kept what the Values come to.
func TestSelectItems(t *testing.T) {
	all, few := span(tableT, 0), between(keyOf(tableT, 0), keyOf(tableT, 0, whole(3)))
	selected(t, some(), "select * from t", some()[tableT], all)
	selected(t, some(), "select * from u", some()[tableU], span(tableU, 0))
	selected(t, some(), "select d , a + 1 , 'k' , null , b from t where a < 3", rowsOf(
		rowWith(whole(10), whole(2), words("k"), null, words("a")),
		rowWith(whole(20), whole(3), words("k"), null, words("b")),
	), few)
	selected(t, some(), "select a , a from t where a < 3", rowsOf(rowWith(whole(1), whole(1)), rowWith(whole(2), whole(2))), few)
	selected(t, some(), "select d > 10 , c and d = 20 from t where a < 3", rowsOf(rowWith(truth(0), truth(0)), rowWith(truth(1), null)), few)
	selected(t, some(), "select 1 from t where a < 3", numbers(1, 1), few)
	selected(t, some(), "select * from t where d > 0", rowsOf(some()[tableT][0], some()[tableT][1], some()[tableT][3]), by(between(behind(keyOf(tableT, 1, whole(0))), behind(keyOf(tableT, 1))), 1, 4, 2)...)
}

// P16.7: what Project refuses, row by row, item by item; of rows that are not kept nothing is asked.
func TestSelectItemsRefused(t *testing.T) {
	all := span(tableT, 0)
	refused(t, some(), "select 1 / ( a - 4 ) from t", api.ErrZero, all)
	refused(t, some(), "select 1 / ( a - 4 ) from t limit 0", api.ErrZero, all)
	refused(t, some(), "select a , 1 / ( a - 4 ) from t order by 1 limit 1", api.ErrZero, all)
	refused(t, some(), "select 9223372036854775807 + ( a - 3 ) , 1 / ( a - 3 ) from t", api.ErrZero, all)
	refused(t, some(), "select 9223372036854775807 + ( a - 3 ) , 1 / ( a - 4 ) from t", api.ErrOver, all)
	refused(t, some(), "select 1 / ( a - 4 ) , 9223372036854775807 + ( a - 3 ) from t", api.ErrZero, all)
	selected(t, some(), "select 6 / ( a - 4 ) from t where a <> 4", numbers(-2, -3, -6, 2), all)
	// What is refused of a row's conjuncts comes first, even if it is a later row.
	refused(t, some(), "select 9223372036854775807 + a from t where 1 / ( a - 7 ) < 1", api.ErrZero, all)
}

// P16.7: grouped, by one column, by several, and by none.
func TestSelectGrouped(t *testing.T) {
	all := span(tableT, 0)
	selected(t, some(), "select b , count ( * ) , sum ( d ) , min ( d ) , max ( a ) , count ( d ) from t group by b", rowsOf(
		rowWith(null, whole(1), whole(10), whole(10), whole(4), whole(1)),
		rowWith(words("a"), whole(2), whole(10), whole(10), whole(3), whole(1)),
		rowWith(words("b"), whole(2), whole(15), whole(-5), whole(7), whole(2)),
	), all)
	selected(t, some(), "select c , b , count ( * ) from t group by c , b", rowsOf(
		rowWith(null, words("b"), whole(1)),
		rowWith(truth(0), words("a"), whole(1)), rowWith(truth(0), words("b"), whole(1)),
		rowWith(truth(1), null, whole(1)), rowWith(truth(1), words("a"), whole(1)),
	), all)
	selected(t, some(), "select c from t group by c", rowsOf(rowWith(null), rowWith(truth(0)), rowWith(truth(1))), all)
	selected(t, some(), "select 5 from t group by c", numbers(5, 5, 5), all)
	selected(t, some(), "select count ( * ) , sum ( d ) from t", rowsOf(rowWith(whole(5), whole(35))), all)
	selected(t, some(), "select d , count ( * ) * 2 + d from t where c group by d", rowsOf(rowWith(whole(10), whole(14))), all)
	selected(t, some(), "select y , sum ( d + z ) from t join u on x = d group by y", rowsOf(rowWith(words("k"), whole(34)), rowWith(words("z"), whole(45))), all, span(tableU, 0))
}

// P16.7: with no row kept there is one group, where there are no Groups, and none, where there are.
func TestSelectGroupedNothing(t *testing.T) {
	none := between(behind(keyOf(tableT, 0, whole(99))), behind(keyOf(tableT, 0)))
	one := rowsOf(rowWith(whole(0), null, null, null, whole(0), whole(3)))
	selected(t, some(), "select count ( * ) , sum ( d ) , min ( b ) , max ( d ) , count ( 1 / 0 ) , 3 from t where a > 99", one, none)
	selected(t, some(), "select b , count ( * ) from t where a > 99 group by b", nil, none)
	selected(t, some(), "select count ( * ) from t where a > 99 group by b", nil, none)
	refused(t, some(), "select 1 / count ( * ) from t where a > 99", api.ErrZero, none)
	selected(t, some(), "select sum ( d ) from t join u on false", rowsOf(rowWith(null)), span(tableT, 0), span(tableU, 0))
	selected(t, stock{}, "select count ( * ) from t", numbers(0), span(tableT, 0))
}

// P16.7: what Group refuses.
func TestSelectGroupedRefused(t *testing.T) {
	all := span(tableT, 0)
	refused(t, some(), "select sum ( 1 / ( a - 4 ) ) from t", api.ErrZero, all)
	refused(t, some(), "select sum ( 1 / ( a - 4 ) ) from t limit 0", api.ErrZero, all)
	refused(t, some(), "select b , 1 / ( count ( d ) - 2 ) from t group by b", api.ErrZero, all)
	refused(t, some(), "select sum ( n ) from w", api.ErrOver, span(tableW, 0))
	refused(t, some(), "select g , sum ( n ) + 9223372036854775807 from w group by g", api.ErrOver, span(tableW, 0))
	// Group by group, item by item.
	refused(t, some(), "select b , 1 / ( count ( d ) - 2 ) , 9223372036854775807 + ( count ( * ) - 1 ) from t group by b", api.ErrOver, all)
	refused(t, some(), "select b , 1 / ( count ( d ) - 1 ) , 9223372036854775807 + ( count ( * ) - 1 ) from t group by b", api.ErrZero, all)
	selected(t, some(), "select g , sum ( n ) from w group by g", rowsOf(rowWith(words("off"), whole(math.MaxInt64)), rowWith(words("on"), whole(3))), span(tableW, 0))
}

// P16.7: sorted by each of the items, up and down; what is the same stays as it stood.
func TestSelectSorted(t *testing.T) {
	all := span(tableT, 0)
	const items = "select a , b , d from t order by "
	for orders, want := range map[string][]int{
		"1": {1, 2, 3, 4, 7}, "1 desc": {7, 4, 3, 2, 1},
		"2": {4, 1, 3, 2, 7}, "2 desc": {2, 7, 1, 3, 4},
		"3": {3, 7, 1, 4, 2}, "3 desc": {2, 1, 4, 7, 3},
		"2 , 1 desc": {4, 3, 1, 7, 2}, "2 desc , 1 desc": {7, 2, 3, 1, 4}, "2 , 3": {4, 3, 1, 7, 2}, "2 , 3 desc": {4, 1, 3, 2, 7}, "3 , 2": {3, 7, 4, 1, 2}, "3 desc , 2 desc": {2, 1, 4, 7, 3},
		"1 , 2": {1, 2, 3, 4, 7}, "2 , 2 desc": {4, 1, 3, 2, 7},
	} {
		var rows [][]api.Value
		for _, a := range want {
			at := slices.IndexFunc(some()[tableT], func(r []api.Value) bool { return r[0] == whole(a) })
			r := some()[tableT][at]
			rows = append(rows, rowWith(r[0], r[1], r[3]))
		}
		selected(t, some(), items+orders, rows, all)
	}
	// Not what was read is sorted by, but what the items come to.
	selected(t, some(), "select 0 - a from t order by 1", numbers(-7, -4, -3, -2, -1), all)
	selected(t, some(), "select b , count ( * ) from t group by b order by 2 desc , 1 desc", rowsOf(rowWith(words("b"), whole(2)), rowWith(words("a"), whole(2)), rowWith(null, whole(1))), all)
	selected(t, some(), "select max ( a ) from t group by b order by 1", numbers(3, 4, 7), all)
	// By an index the rows come in the order of their keys, too.
	ones := by(between(behind(keyOf(tableT, 1, whole(0))), behind(keyOf(tableT, 1))), 1, 4, 2)
	selected(t, some(), "select a , 5 from t where d > 0 order by 2", rowsOf(rowWith(whole(1), whole(5)), rowWith(whole(2), whole(5)), rowWith(whole(4), whole(5))), ones...)
	selected(t, some(), "select a from t where d > 0 order by 1 desc", numbers(4, 2, 1), ones...)
}

// P16.7: all columns of two tables are more items than a source can write.
func TestSelectAllOfTwo(t *testing.T) {
	var want [][]api.Value
	for _, a := range some()[tableT] {
		want = append(want, slices.Concat(a, some()[tableW][2]))
	}
	selected(t, some(), "select * from t join w on g = 'off'", want, span(tableT, 0), span(tableW, 0))
	slices.Reverse(want)
	selected(t, some(), "select * from t join w on g = 'off' order by 8 , 1 desc", want, span(tableT, 0), span(tableW, 0))
}

// P16.7: at most Limit of them, behind the sorting.
func TestSelectLimited(t *testing.T) {
	all := span(tableT, 0)
	up, down, ones := []int{1, 2, 3, 4, 7}, []int{7, 4, 3, 2, 1}, []int{1, 1, 1, 1, 1}
	for limit := range 8 {
		n := min(limit, 5)
		selected(t, some(), fmt.Sprint("select a from t limit ", limit), numbers(up[:n]...), all)
		selected(t, some(), fmt.Sprint("select a from t order by 1 desc limit ", limit), numbers(down[:n]...), all)
		selected(t, some(), fmt.Sprint("select count ( * ) from t group by a limit ", limit), numbers(ones[:n]...), all)
	}
	selected(t, some(), "select a from t limit 9223372036854775807", numbers(up...), all)
	selected(t, some(), "select count ( * ) from t limit 0", nil, all)
	selected(t, some(), "select count ( * ) from t limit 1", numbers(5), all)
	selected(t, some(), "select a from t where a > 3 limit 1", numbers(4), between(behind(keyOf(tableT, 0, whole(3))), behind(keyOf(tableT, 0))))
	selected(t, some(), "select a from t join u on x = 20 limit 2", numbers(1, 2), all, span(tableU, 0))
	selected(t, stock{}, "select a from t limit 3", nil, all)
}

// P16.7: what is beyond the Limit does not stand in the spare room.
func TestSelectLimitedRoom(t *testing.T) {
	l := tables(t)
	got := Run(l, snapOf(l, some()), statement(t, "select a from t limit 3")).Rows
	for _, r := range got[len(got):cap(got)] {
		if len(r) > 0 {
			t.Errorf("%v stands behind %v", r, got)
		}
	}
}
