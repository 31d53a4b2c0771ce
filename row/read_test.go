package row

import (
	"bytes"
	"math/rand"
	"slices"
	"strings"
	"testing"

	"commonhold/api"
	"commonhold/key"
)

// checkRead: what Read answers, with spare room and without; what was handed in stays, and nothing of it is shared.
func checkRead(t *testing.T, l []api.Table, table int, e api.Entry, want []api.Value, code api.Errno) {
	t.Helper()
	for _, x := range [][]api.Table{l, roomyTables(l)} {
		for _, y := range []api.Entry{e, roomyEntry(e)} {
			kept := toldOf(x, y)
			got, c := Read(x, table, y)
			if c != code || !slices.Equal(got, want) {
				t.Errorf("Read(%s, %d, %s): %s, %d; want %s, %d", brief(l), table, brief(e), brief(got), c, brief(want), code)
			}
			if toldOf(x, y) != kept {
				t.Errorf("Read(%s, %d, %s) changes what it is given", brief(l), table, brief(e))
			}
			again, _ := Read(x, table, y)
			if sharing(got, x, y, again) {
				t.Errorf("Read(%s, %d, %s): %s shares memory", brief(l), table, brief(e), brief(got))
			}
		}
	}
}

func refusesEntry(t *testing.T, l []api.Table, table int, e api.Entry) {
	t.Helper()
	checkRead(t, l, table, e, nil, api.ErrForm)
}

// P14.3: of the first entry of a row it comes back, of the others not.
func TestRead(t *testing.T) {
	l := several()
	for table := range l {
		made := wantedOf(t, l, table, severalRow(table))
		checkRead(t, l, table, made[0], severalRow(table), api.OK)
		for _, e := range made[1:] {
			refusesEntry(t, l, table, e)
			refusesEntry(t, l, table, api.Entry{Key: e.Key, Value: made[0].Value})
			refusesEntry(t, l, table, api.Entry{Key: made[0].Key, Value: e.Value})
		}
		for other := range l {
			if other != table {
				refusesEntry(t, l, other, made[0])
			}
		}
	}
}

// P14.3: another table's entry, though the tables are alike.
func TestReadOfAlikeTables(t *testing.T) {
	l := greatest()
	row := rowWith(null, words("b"), words(zeros), words("\u00e4"), null, words(""))
	for table := range l {
		for other := range l {
			e := wantedOf(t, l, other, row)[0]
			if other == table {
				checkRead(t, l, table, e, row, api.OK)
			} else {
				refusesEntry(t, l, table, e)
			}
		}
	}
}

// P14.3: each kind of value.
func TestReadOfKinds(t *testing.T) {
	for _, kind := range []int{api.Truth, api.Int, api.Text} {
		for _, v := range ofKind(kind) {
			e := api.Entry{Key: keyed(whole(0), whole(0), v), Value: keyed(v)}
			checkRead(t, single(kind), 0, e, rowWith(v), api.OK)
			for _, other := range []int{api.Truth, api.Int, api.Text} {
				if other != kind {
					refusesEntry(t, single(other), 0, e)
				}
			}
		}
		refusesEntry(t, single(kind), 0, api.Entry{Key: keyed(whole(0), whole(0), null), Value: keyed(null)})
	}
}

// P14.3: a catalog that does not fit, ahead of a table that is not there, and both ahead of the entry.
func TestReadOfNoTable(t *testing.T) {
	e := wantedOf(t, several(), 0, severalRow(0))[0]
	for _, l := range misfits() {
		for _, table := range append(strangeTables(len(l)), 0, 1, 2) {
			checkRead(t, l, table, e, nil, api.ErrForm)
			checkRead(t, l, table, api.Entry{}, nil, api.ErrForm)
		}
	}
	for _, l := range [][]api.Table{nil, {}, several()[:1], several(), greatest()} {
		for _, table := range strangeTables(len(l)) {
			checkRead(t, l, table, e, nil, api.ErrRange)
			checkRead(t, l, table, api.Entry{}, nil, api.ErrRange)
			checkRead(t, l, table, api.Entry{Value: []byte{0}}, nil, api.ErrRange)
		}
	}
}

// P14.3: a Key or a Value that is cut, or has more behind it.
func TestReadOfOtherLengths(t *testing.T) {
	l := several()
	for table := range l {
		e := wantedOf(t, l, table, severalRow(table))[0]
		for n := range e.Key {
			refusesEntry(t, l, table, api.Entry{Key: e.Key[:n], Value: e.Value})
		}
		for n := range e.Value {
			refusesEntry(t, l, table, api.Entry{Key: e.Key, Value: e.Value[:n]})
		}
		others := [][]byte{{0}, {1}, {2}, {6}, {255}, keyed(whole(1)), keyed(words("a")), make([]byte, api.MaxKey), bytes.Repeat([]byte{1}, api.MaxKey+1)}
		for _, other := range others {
			refusesEntry(t, l, table, api.Entry{Key: other, Value: e.Value})
			refusesEntry(t, l, table, api.Entry{Key: e.Key, Value: other})
			refusesEntry(t, l, table, api.Entry{Key: other, Value: other})
		}
		for _, more := range append(others, e.Key, e.Value) {
			refusesEntry(t, l, table, api.Entry{Key: slices.Concat(e.Key, more), Value: e.Value})
			refusesEntry(t, l, table, api.Entry{Key: e.Key, Value: slices.Concat(e.Value, more)})
		}
		refusesEntry(t, l, table, api.Entry{Key: e.Value, Value: e.Key})
		refusesEntry(t, l, table, api.Entry{})
	}
}

// P14.3: a Key or a Value that is that of another row.
func TestReadOfAnotherRow(t *testing.T) {
	l := several()
	e, other := wantedOf(t, l, 1, severalRow(1))[0], wantedOf(t, l, 1, rowWith(words("y"), truth(0), whole(-2)))[0]
	refusesEntry(t, l, 1, api.Entry{Key: e.Key, Value: other.Value})
	refusesEntry(t, l, 1, api.Entry{Key: other.Key, Value: e.Value})
	// What is no part of the key may be another: it is the row that the Value tells.
	row := rowWith(null, truth(1), whole(-2))
	checkRead(t, l, 1, api.Entry{Key: e.Key, Value: keyed(row...)}, row, api.OK)
}

// P14.3: an entry of a row that Entries refuses.
func TestReadOfRefusedRows(t *testing.T) {
	l := several()
	for _, f := range []struct {
		table int
		row   []api.Value
		code  api.Errno
	}{
		{0, rowWith(whole(5)), api.ErrSize},
		{0, rowWith(whole(5), null, null), api.ErrSize},
		{0, rowWith(whole(5), null, words("x")), api.ErrSize},
		{0, rowWith(whole(5), whole(5)), api.ErrType},
		{0, rowWith(whole(5), truth(1)), api.ErrType},
		{0, rowWith(words("5"), words("x")), api.ErrType},
		{0, rowWith(null, words("x")), api.ErrNull},
		{0, rowWith(whole(5), words(zeros+"a")), api.ErrSize},
		{0, rowWith(whole(5), words("\xff")), api.ErrForm},
		{1, rowWith(null, null, whole(1)), api.ErrNull},
		{1, rowWith(null, whole(1), whole(1)), api.ErrType},
		{2, rowWith(whole(1), words(zeros+"a"), truth(0), null), api.ErrSize},
		{2, rowWith(whole(1), words("\xff"), truth(0), null), api.ErrForm},
	} {
		if _, code := Entries(l, f.table, f.row); code != f.code {
			t.Errorf("Entries of %s: %d, want %d", brief(f.row), code, f.code)
		}
		refusesEntry(t, l, f.table, api.Entry{Key: keyed(slices.Concat(rowWith(whole(f.table), whole(0)), picked(f.row, l[f.table].Key))...), Value: keyed(f.row...)})
	}
}

// wantedRow: what Read is to answer, of a catalog that fits and a table of it.
func wantedRow(l []api.Table, table int, e api.Entry) ([]api.Value, api.Errno) {
	row, _, code := key.Decode(e.Value)
	if code != api.OK {
		return nil, api.ErrForm
	}
	made, code := wanted(l, table, row)
	if code != api.OK || !alike(made[:1], []api.Entry{e}) {
		return nil, api.ErrForm
	}
	return row, api.OK
}

// P14.3: each byte in turn is another one.
func TestReadOfOtherBytes(t *testing.T) {
	l := several()
	for table := range l {
		e := wantedOf(t, l, table, severalRow(table))[0]
		for i := range e.Key {
			for step := 1; step < 256; step++ {
				k := slices.Clone(e.Key)
				k[i] += byte(step)
				if row, code := Read(l, table, api.Entry{Key: k, Value: e.Value}); code != api.ErrForm || len(row) != 0 {
					t.Errorf("Read of the Key %v: %s, %d", k, brief(row), code)
				}
			}
		}
		for i := range e.Value {
			for step := 1; step < 256; step++ {
				v := slices.Clone(e.Value)
				v[i] += byte(step)
				want, code := wantedRow(l, table, api.Entry{Key: e.Key, Value: v})
				if row, c := Read(l, table, api.Entry{Key: e.Key, Value: v}); c != code || !slices.Equal(row, want) {
					t.Errorf("Read of the Value %v: %s, %d; want %s, %d", v, brief(row), c, brief(want), code)
				}
			}
		}
	}
}

// P14.3: whatever catalog, table and row; of each table the entries of each other one.
func TestReadOfManyRows(t *testing.T) {
	random := rand.New(rand.NewSource(4))
	for range 500 {
		l := randomCatalog(random)
		table := random.Intn(len(l))
		row := randomRow(random, l[table].Columns)
		made := wantedOf(t, l, table, row)
		checkRead(t, l, table, made[0], row, api.OK)
		for other := range l {
			for i, e := range made {
				if other != table || i > 0 {
					refusesEntry(t, l, other, e)
				}
			}
		}
	}
}

// P14.3: a row that was read stays, whatever becomes of the entry.
func TestReadIsNotKept(t *testing.T) {
	l := several()
	row := rowWith(words(strings.Repeat("long", 10)), truth(1), whole(7))
	e := wantedOf(t, l, 1, row)[0]
	got, _ := Read(l, 1, e)
	clear(e.Key)
	clear(e.Value)
	if !slices.Equal(got, row) {
		t.Errorf("%s is now %s", brief(row), brief(got))
	}
}
