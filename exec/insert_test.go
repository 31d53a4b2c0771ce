package exec

import (
	"math"
	"slices"
	"strings"
	"testing"

	"commonhold/api"
)

// inserted: a row that is inserted into a table.
func inserted(t *testing.T, rows stock, source string, table int, values ...api.Value) {
	t.Helper()
	l := tables(t)
	check(t, rows, source, api.Answer{
		Count:  1,
		Reads:  reads(pointAt(table, picked(values, l[table].Key)...)),
		Writes: puts(entriesWanted(l, table, values)...),
	})
}

// P16.3: a row, of a table with two, one and no index.
func TestInsert(t *testing.T) {
	for _, rows := range []stock{{}, some()} {
		inserted(t, rows, "insert into t values ( 5 , 'b' , true , 20 )", tableT, whole(5), words("b"), truth(1), whole(20))
		inserted(t, rows, "insert into t values ( - 5 , null , null , null )", tableT, whole(-5), null, null, null)
		inserted(t, rows, "insert into u values ( 20 , 'k' , 7 )", tableU, whole(20), words("k"), whole(7))
		inserted(t, rows, "insert into u values ( 0 , '' , null )", tableU, whole(0), words(""), null)
		inserted(t, rows, "insert into w values ( '' , 'on' , null , 3 )", tableW, words(""), words("on"), null, whole(3))
		inserted(t, rows, "insert into w values ( 'pp' , 'on' , 'x' , 1 )", tableW, words("pp"), words("on"), words("x"), whole(1))
	}
	long := strings.Repeat("a", api.MaxText)
	inserted(t, some(), "insert into w values ( '"+long+"' , '"+long+"' , '"+long+"' , 1 )", tableW, words(long), words(long), words(long), whole(1))
}

// P16.3: to the byte, in the order of the entries.
func TestInsertBytes(t *testing.T) {
	low := "\x04\x80\x00\x00\x00\x00\x00\x00\x02\x04\x80\x00\x00\x00\x00\x00\x00\x00\x05k\x00\x01"
	byIndex := "\x04\x80\x00\x00\x00\x00\x00\x00\x02\x04\x80\x00\x00\x00\x00\x00\x00\x01\x05g\x00\x01\x05k\x00\x01"
	check(t, some(), "insert into w values ( 'k' , 'g' , null , - 1 )", api.Answer{
		Count: 1,
		Reads: reads(api.Range{Low: []byte(low), High: []byte(low + "\x00")}),
		Writes: []api.Write{
			{Key: []byte(low), Value: []byte("\x05k\x00\x01\x05g\x00\x01\x01\x04\x7f\xff\xff\xff\xff\xff\xff\xff")},
			{Key: []byte(byIndex)},
		},
	})
}

// P16.3: the row is what the Values come to.
func TestInsertReckons(t *testing.T) {
	inserted(t, some(), "insert into t values ( 2 * 3 + 4 , 'x' , 1 < 2 and not false , 7 / 2 - 7 % 2 )", tableT, whole(10), words("x"), truth(1), whole(2))
	inserted(t, some(), "insert into t values ( - 9223372036854775807 - 1 , null , null = null , 1 + null )", tableT, whole(math.MinInt64), null, null, null)
	inserted(t, some(), "insert into t values ( 9223372036854775807 , 'x' , null is null , - 1 )", tableT, whole(math.MaxInt64), words("x"), truth(1), whole(-1))
	// What settles it is not asked on.
	inserted(t, some(), "insert into t values ( 5 , 'x' , false and 1 / 0 = 1 , 0 )", tableT, whole(5), words("x"), truth(0), whole(0))
}

// P16.3: what Eval refuses, value by value; nothing is read.
func TestInsertRefusedByEval(t *testing.T) {
	for _, rows := range []stock{{}, some()} {
		refused(t, rows, "insert into t values ( 1 / 0 , 'a' , true , 1 )", api.ErrZero)
		refused(t, rows, "insert into t values ( 1 , 'a' , true , 1 % 0 )", api.ErrZero)
		refused(t, rows, "insert into t values ( 1 , 'a' , 1 / 0 = 1 , 1 )", api.ErrZero)
		refused(t, rows, "insert into t values ( 9223372036854775807 + 1 , 'a' , true , 1 )", api.ErrOver)
		refused(t, rows, "insert into t values ( 1 , 'a' , true , - 9223372036854775807 - 2 )", api.ErrOver)
		refused(t, rows, "insert into t values ( 1 , 'a' , true , 4611686018427387904 * 2 )", api.ErrOver)
		refused(t, rows, "insert into t values ( 1 / 0 , 'a' , true , 9223372036854775807 + 1 )", api.ErrZero)
		refused(t, rows, "insert into t values ( 9223372036854775807 + 1 , 'a' , true , 1 / 0 )", api.ErrOver)
	}
}

// P16.3: what Entries refuses; nothing is read. Of its errors only this one can come up: the types are held against the columns ahead of it.
func TestInsertRefusedByEntries(t *testing.T) {
	for _, rows := range []stock{{}, some()} {
		refused(t, rows, "insert into t values ( null , 'a' , true , 1 )", api.ErrNull)
		refused(t, rows, "insert into t values ( 1 + null , 'a' , true , 1 )", api.ErrNull)
		refused(t, rows, "insert into u values ( null , 'a' , 1 )", api.ErrNull)
		refused(t, rows, "insert into u values ( 1 , null , 1 )", api.ErrNull)
		refused(t, rows, "insert into w values ( 'k' , null , 'x' , 1 )", api.ErrNull)
		// Of a key that is there, too.
		refused(t, rows, "insert into w values ( 'p' , null , 'x' , 1 )", api.ErrNull)
		// What Eval refuses of a later value comes first.
		refused(t, rows, "insert into t values ( null , 'a' , true , 1 / 0 )", api.ErrZero)
		refused(t, rows, "insert into w values ( null , null , 'x' , 9223372036854775807 + 1 )", api.ErrOver)
	}
}

// P16.3: a key that is there; its point was read.
func TestInsertTwice(t *testing.T) {
	refused(t, some(), "insert into t values ( 1 , 'new' , null , 99 )", api.ErrTwice, pointAt(tableT, whole(1)))
	refused(t, some(), "insert into t values ( 1 , 'a' , true , 10 )", api.ErrTwice, pointAt(tableT, whole(1)))
	refused(t, some(), "insert into t values ( 8 - 1 , null , null , null )", api.ErrTwice, pointAt(tableT, whole(7)))
	refused(t, some(), "insert into u values ( - 1 , 'z' , 4 )", api.ErrTwice, pointAt(tableU, words("z"), whole(-1)))
	refused(t, some(), "insert into w values ( 'r' , 'on' , null , null )", api.ErrTwice, pointAt(tableW, words("r")))
	// Some of the values of a key are there, but no such key; or another table has it.
	inserted(t, some(), "insert into u values ( - 1 , 'k' , 4 )", tableU, whole(-1), words("k"), whole(4))
	inserted(t, some(), "insert into u values ( 1 , 'z' , 4 )", tableU, whole(1), words("z"), whole(4))
	inserted(t, some(), "insert into t values ( 10 , 'a' , true , 10 )", tableT, whole(10), words("a"), truth(1), whole(10))
}

// P16.3: each row of a stock is there, and behind an insert it is.
func TestInsertEach(t *testing.T) {
	l, rows := tables(t), some()
	constants := func(values []api.Value) api.Statement {
		s := api.Statement{Kind: api.Insert}
		for _, v := range values {
			e := api.Expr{Op: api.Const, Value: v}
			if v.Int < 0 {
				e = api.Expr{Op: api.Neg, Subs: []api.Expr{{Op: api.Const, Value: whole(-v.Int)}}}
			}
			s.Values = append(s.Values, e)
		}
		return s
	}
	for table, list := range rows {
		for i, values := range list {
			s := constants(values)
			s.Table = l[table].Name
			at := pointAt(table, picked(values, l[table].Key)...)
			checkRun(t, l, snapOf(l, rows), s, api.Answer{Code: api.ErrTwice, Reads: reads(at)})
			less := rows
			less[table] = slices.Delete(slices.Clone(list), i, i+1)
			checkRun(t, l, snapOf(l, less), s, api.Answer{Count: 1, Reads: reads(at), Writes: puts(entriesWanted(l, table, values)...)})
			again, code := Apply(snapOf(l, less), Run(l, snapOf(l, less), s).Writes)
			if code != api.OK || !alikeEntries(again, snapOf(l, rows)) {
				t.Errorf("%s, inserted: %s, %d", brief(values), brief(again), code)
			}
		}
	}
}
