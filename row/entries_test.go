package row

import (
	"bytes"
	"math/rand"
	"slices"
	"strings"
	"testing"

	"commonhold/api"
	"commonhold/value"
)

// checkEntries: what Entries answers, with spare room and without; what was handed in stays, and nothing of it is shared.
func checkEntries(t *testing.T, l []api.Table, table int, row []api.Value, want []api.Entry, code api.Errno) {
	t.Helper()
	for _, x := range [][]api.Table{l, roomyTables(l)} {
		for _, y := range [][]api.Value{row, roomy(row, whole(1))} {
			kept := toldOf(x, y)
			got, e := Entries(x, table, y)
			if e != code || !alike(got, want) {
				t.Errorf("Entries(%s, %d, %s): %s, %d; want %s, %d", brief(l), table, brief(row), brief(got), e, brief(want), code)
			}
			if toldOf(x, y) != kept {
				t.Errorf("Entries(%s, %d, %s) changes what it is given", brief(l), table, brief(row))
			}
			again, _ := Entries(x, table, y)
			if sharing(got, x, y, again) {
				t.Errorf("Entries(%s, %d, %s): %s shares memory", brief(l), table, brief(row), brief(got))
			}
		}
	}
}

// entries: of keys and values, one behind the other.
func entries(l ...[]byte) []api.Entry {
	var made []api.Entry
	for i := 0; i < len(l); i += 2 {
		made = append(made, api.Entry{Key: l[i], Value: l[i+1]})
	}
	return made
}

// P14.2: tables with no, one and two indexes, keys of one to three places, indexes too.
func TestEntries(t *testing.T) {
	l := several()
	number := func(i byte) string { return "\x04\x80\x00\x00\x00\x00\x00\x00" + string(rune(i)) }
	below := "\x04\x7f\xff\xff\xff\xff\xff\xff\xfe"
	checkEntries(t, l, 0, severalRow(0), entries(
		[]byte(number(0)+number(0)+number(5)), []byte(number(5)+"\x05x\x00\x01"),
	), api.OK)
	checkEntries(t, l, 1, severalRow(1), entries(
		[]byte(number(1)+number(0)+below+"\x03"), []byte("\x05y\x00\x01\x03"+below),
		[]byte(number(1)+number(1)+"\x05y\x00\x01"+below+"\x03"), nil,
	), api.OK)
	checkEntries(t, l, 2, severalRow(2), entries(
		[]byte(number(2)+number(0)+"\x05z\x00\x01\x02"+number(3)), []byte(number(3)+"\x05z\x00\x01\x02"+number(4)),
		[]byte(number(2)+number(1)+number(4)+number(3)+"\x05z\x00\x01\x02"+number(3)), nil,
		[]byte(number(2)+number(2)+"\x02"+number(4)+"\x05z\x00\x01"+"\x05z\x00\x01\x02"+number(3)), nil,
	), api.OK)
	for table := range l {
		if made := wantedOf(t, l, table, severalRow(table)); len(made) != 1+table {
			t.Errorf("%d entries are wanted of table %d", len(made), table)
		}
	}
}

// P14.2: Null, where it may be, and rows as great as may be.
func TestEntriesOfGreatTables(t *testing.T) {
	l, z := greatest(), words(zeros)
	for table := range l {
		for _, row := range [][]api.Value{rowWith(z, z, z, z, z, z), rowWith(null, z, z, null, null, z), rowWith(words("1"), words("2"), words("3"), words("4"), words("5"), words("6"))} {
			checkEntries(t, l, table, row, wantedOf(t, l, table, row), api.OK)
		}
	}
	made, _ := Entries(l, 3, rowWith(null, words("b"), words("c"), words("d"), null, words("f")))
	want := entries(
		keyed(whole(3), whole(0), words("f"), words("b"), words("c")), keyed(null, words("b"), words("c"), words("d"), null, words("f")),
		keyed(whole(3), whole(1), null, null, words("f"), words("f"), words("b"), words("c")), nil,
		keyed(whole(3), whole(2), words("d"), words("c"), words("b"), words("f"), words("b"), words("c")), nil,
	)
	if !alike(made, want) {
		t.Errorf("%s; want %s", brief(made), brief(want))
	}
}

// P14.2: each kind of value, each in a column of its type.
func TestEntriesOfKinds(t *testing.T) {
	for _, kind := range []int{api.Truth, api.Int, api.Text} {
		for _, v := range ofKind(kind) {
			checkEntries(t, single(kind), 0, rowWith(v), entries(keyed(whole(0), whole(0), v), keyed(v)), api.OK)
			checkEntries(t, single(kind), 0, rowWith(null), nil, api.ErrNull)
			for _, other := range []int{api.Truth, api.Int, api.Text} {
				if other != kind {
					checkEntries(t, single(other), 0, rowWith(v), nil, api.ErrType)
				}
			}
		}
	}
}

// P14.2: a catalog that does not fit, ahead of all else.
func TestEntriesOfMisfits(t *testing.T) {
	for _, l := range misfits() {
		for table := range 3 {
			checkEntries(t, l, table, severalRow(table), nil, api.ErrForm)
			checkEntries(t, l, table, nil, nil, api.ErrForm)
		}
		for _, table := range strangeTables(len(l)) {
			checkEntries(t, l, table, severalRow(0), nil, api.ErrForm)
		}
	}
}

// P14.2: a table that is not there, ahead of what is wrong with a row.
func TestEntriesOfNoTable(t *testing.T) {
	for _, l := range [][]api.Table{nil, {}, several()[:1], several(), greatest()} {
		for _, table := range strangeTables(len(l)) {
			checkEntries(t, l, table, severalRow(0), nil, api.ErrRange)
			checkEntries(t, l, table, nil, nil, api.ErrRange)
			checkEntries(t, l, table, rowWith(api.Value{Kind: -1}, null), nil, api.ErrRange)
		}
	}
}

// P14.2: too few values, and too many, ahead of what is wrong with a value.
func TestEntriesOfOtherLengths(t *testing.T) {
	l := several()
	for table := range l {
		row, wrong := severalRow(table), rowWith(api.Value{Kind: -1})
		for n := range row {
			checkEntries(t, l, table, row[:n], nil, api.ErrSize)
			if n > 0 {
				checkEntries(t, l, table, slices.Concat(wrong, row[1:n]), nil, api.ErrSize)
			}
		}
		for _, n := range []int{1, 2, 100, 1000} {
			checkEntries(t, l, table, slices.Concat(row, slices.Repeat(row[:1], n)), nil, api.ErrSize)
		}
		checkEntries(t, l, table, slices.Concat(wrong, row), nil, api.ErrSize)
		checkEntries(t, l, table, slices.Concat(row, wrong), nil, api.ErrSize)
		checkEntries(t, l, table, slices.Concat(row, rowWith(null)), nil, api.ErrSize)
	}
}

// fault: a value that is refused, and how.
type fault struct {
	v    api.Value
	code api.Errno
}

// faults: what is refused of a value in a column that must not be Null. Most of them are of another type, too, or Null.
func faults(kind int) []fault {
	l := []fault{
		{api.Value{Kind: -1}, api.ErrKind},
		{api.Value{Kind: api.Text + 1}, api.ErrKind},
		{api.Value{Kind: api.Text + 1, Int: 1, Text: zeros + "a"}, api.ErrKind},
		{words(zeros + "a"), api.ErrSize},
		{api.Value{Kind: api.Null, Text: zeros + "a"}, api.ErrSize},
		{api.Value{Kind: api.Int, Text: zeros + "a"}, api.ErrSize},
		{words(strings.Repeat("\xff", api.MaxText+1)), api.ErrSize},
		{words("\xff"), api.ErrForm},
		{truth(2), api.ErrForm},
		{truth(-1), api.ErrForm},
		{api.Value{Kind: api.Null, Int: 1}, api.ErrForm},
		{api.Value{Kind: api.Null, Text: "a"}, api.ErrForm},
		{api.Value{Kind: api.Int, Text: "a"}, api.ErrForm},
		{api.Value{Kind: api.Text, Int: 1}, api.ErrForm},
		{null, api.ErrNull},
	}
	for _, other := range []int{api.Truth, api.Int, api.Text} {
		if other != kind {
			l = append(l, fault{ofKind(other)[0], api.ErrType}, fault{ofKind(other)[1], api.ErrType})
		}
	}
	return l
}

// The faults themselves: what P2.1 says is told ahead of what a column says.
func TestFaults(t *testing.T) {
	for _, f := range faults(api.Int) {
		code := value.Check(f.v)
		if code != f.code && (code != api.OK || f.code != api.ErrType && f.code != api.ErrNull) {
			t.Errorf("%s: %d, or %d", brief(f.v), f.code, code)
		}
	}
}

// P14.2: of each column each fault; of two columns at fault the first one is told.
func TestEntriesOfFaults(t *testing.T) {
	l := several()
	for table := range l {
		columns := l[table].Columns
		for i, c := range columns {
			for _, f := range faults(c.Type) {
				row := severalRow(table)
				row[i] = f.v
				if f.v == null && !c.NotNull {
					checkEntries(t, l, table, row, wantedOf(t, l, table, row), api.OK)
					continue
				}
				checkEntries(t, l, table, row, nil, f.code)
				for j := i + 1; j < len(columns); j++ {
					for _, g := range faults(columns[j].Type) {
						row[j] = g.v
						if _, code := Entries(l, table, row); code != f.code {
							t.Errorf("Entries of %s: %d, want %d", brief(row), code, f.code)
						}
					}
					row[j] = severalRow(table)[j]
				}
			}
		}
	}
}

// P14.2: whatever catalog, table and row.
func TestEntriesOfManyRows(t *testing.T) {
	random := rand.New(rand.NewSource(2))
	for range 1000 {
		l := randomCatalog(random)
		table := random.Intn(len(l))
		row := randomRow(random, l[table].Columns)
		checkEntries(t, l, table, row, wantedOf(t, l, table, row), api.OK)
		for range random.Intn(3) {
			row[random.Intn(len(row))] = oneOf(random, faults(1+random.Intn(3))).v
		}
		want, code := wanted(l, table, row)
		checkEntries(t, l, table, row, want, code)
	}
}

// P14.2, what comes of it: the first entries of a table's rows stand in the order of their keys' values.
func TestEntriesStandInOrder(t *testing.T) {
	random := rand.New(rand.NewSource(3))
	for range 3000 {
		l := randomCatalog(random)
		table := random.Intn(len(l))
		a, b := randomRow(random, l[table].Columns), randomRow(random, l[table].Columns)
		x, _ := Entries(l, table, a)
		y, _ := Entries(l, table, b)
		want := slices.CompareFunc(picked(a, l[table].Key), picked(b, l[table].Key), func(v, w api.Value) int {
			n, _ := value.Order(v, w)
			return n
		})
		if got := bytes.Compare(x[0].Key, y[0].Key); got != want {
			t.Errorf("%s and %s of %s: %d, want %d", brief(a), brief(b), brief(l[table]), got, want)
		}
		for i := range x {
			if bytes.Equal(x[i].Key, y[i].Key) != (want == 0) && (i == 0 || want != 0) {
				t.Errorf("%s and %s of %s: entry %d", brief(a), brief(b), brief(l[table]), i)
			}
		}
	}
}
