package row

import (
	"bytes"

	"commonhold/api"
	"commonhold/key"
	"commonhold/value"
)

// check: what is refused of a row of these columns.
func check(columns []api.Column, row []api.Value) api.Errno {
	if len(row) != len(columns) {
		return api.ErrSize
	}
	for i, c := range columns {
		if code := checkValue(c, row[i]); code != api.OK {
			return code
		}
	}
	return api.OK
}

func checkValue(c api.Column, v api.Value) api.Errno {
	if code := value.Check(v); code != api.OK {
		return code
	}
	switch {
	case v.Kind != api.Null && v.Kind != c.Type:
		return api.ErrType
	case v.Kind == api.Null && c.NotNull:
		return api.ErrNull
	}
	return api.OK
}

// keyOf: the key of a table and an index, and of the values of a row in places, that come as any number of lists.
func keyOf(table, index int, row []api.Value, places ...[]int) []byte {
	l := []api.Value{{Kind: api.Int, Int: table}, {Kind: api.Int, Int: index}}
	for _, list := range places {
		for _, place := range list {
			l = append(l, row[place])
		}
	}
	return encoded(l)
}

// encoded: the key of values none of which is refused. The limits leave room for a whole row as for the places of an index and a Key, so that Encode refuses none of them.
func encoded(l []api.Value) []byte {
	k, _ := key.Encode(l)
	return k
}

// firstEntry: the entry of a row that may be in which all of it stands.
func firstEntry(t api.Table, table int, row []api.Value) api.Entry {
	return api.Entry{Key: keyOf(table, 0, row, t.Key), Value: encoded(row)}
}

// entriesOf: the entries of a row that may be.
func entriesOf(t api.Table, table int, row []api.Value) []api.Entry {
	l := []api.Entry{firstEntry(t, table, row)}
	for i, x := range t.Indexes {
		// Behind its own places stand the Key's: they tell apart rows that are alike in the index.
		l = append(l, api.Entry{Key: keyOf(table, i+1, row, x.Places, t.Key)})
	}
	return l
}

// rowOf: the row whose first entry an entry is, if there is one.
func rowOf(t api.Table, table int, e api.Entry) ([]api.Value, bool) {
	row, _, code := key.Decode(e.Value)
	if code != api.OK || check(t.Columns, row) != api.OK || !same(e, firstEntry(t, table, row)) {
		return nil, false
	}
	return row, true
}

func same(a, b api.Entry) bool {
	return bytes.Equal(a.Key, b.Key) && bytes.Equal(a.Value, b.Value)
}
