package catalog

import (
	"slices"

	"commonhold/api"
)

// placeIn: a closure that tells the place of the element that has a name; -1: none has.
func placeIn[T any](l []T, nameOf func(T) string) func(string) int {
	return func(name string) int {
		return slices.IndexFunc(l, func(x T) bool { return nameOf(x) == name })
	}
}

// withTable: a catalog that fits, with a table behind those there are.
func withTable(l []api.Table, s api.Statement) ([]api.Table, api.Errno) {
	switch {
	case len(l) == api.MaxTables:
		return nil, api.ErrFull
	case placeIn(l, tableName)(s.Table) >= 0 || !noTwo(s.Columns, columnName):
		return nil, api.ErrTwice
	}
	key, code := placesOf(s.Names, placeIn(s.Columns, columnName))
	if code != api.OK {
		return nil, code
	}
	columns := copied(s.Columns)
	for _, place := range key {
		columns[place].NotNull = true
	}
	return append(copiedTables(l), api.Table{Name: s.Table, Columns: columns, Key: key}), api.OK
}

// withIndex: a catalog that fits, with an index behind those that its table has.
func withIndex(l []api.Table, s api.Statement) ([]api.Table, api.Errno) {
	at := placeIn(l, tableName)(s.Table)
	if at < 0 {
		return nil, api.ErrNone
	}
	t := l[at]
	switch {
	case len(t.Indexes) == api.MaxIndex:
		return nil, api.ErrFull
	case placeIn(t.Indexes, indexName)(s.Name) >= 0:
		return nil, api.ErrTwice
	}
	places, code := placesOf(s.Names, placeIn(t.Columns, columnName))
	if code != api.OK {
		return nil, code
	}
	tables := copiedTables(l)
	tables[at].Indexes = append(tables[at].Indexes, api.Index{Name: s.Name, Places: places})
	return tables, api.OK
}

// placesOf: the places of the columns that have these names, as a closure tells them.
func placesOf(names []string, placeOf func(string) int) ([]int, api.Errno) {
	seen := map[string]struct{}{}
	var places []int
	for _, name := range names {
		place := placeOf(name)
		switch {
		case place < 0:
			return nil, api.ErrNone
		case !isNew(seen, name):
			return nil, api.ErrTwice
		}
		places = append(places, place)
	}
	return places, api.OK
}

// copied: a list of new memory.
func copied[T any](l []T) []T {
	return append([]T(nil), l...)
}

// copiedTables: a catalog none of whose lists is shared.
func copiedTables(l []api.Table) []api.Table {
	tables := copied(l)
	for i, t := range tables {
		t.Columns, t.Key, t.Indexes = copied(t.Columns), copied(t.Key), copied(t.Indexes)
		for j, x := range t.Indexes {
			t.Indexes[j].Places = copied(x.Places)
		}
		tables[i] = t
	}
	return tables
}
