package row

import (
	"bytes"
	"slices"

	"commonhold/api"
)

// ascend: whether each key stands behind the one ahead of it, so that no two are the same.
func ascend(l []api.Entry) bool {
	for i := 1; i < len(l); i++ {
		if bytes.Compare(l[i-1].Key, l[i].Key) >= 0 {
			return false
		}
	}
	return true
}

// allEntries: all entries of the rows whose first entries are in a snapshot, by their keys. An index's entry is no first one of whatever table, so that these are all rows that the snapshot can have.
func allEntries(l []api.Table, snap []api.Entry) []api.Entry {
	var all []api.Entry
	for _, e := range snap {
		for table, t := range l {
			if row, ok := rowOf(t, table, e); ok {
				all = append(all, entriesOf(t, table, row)...)
			}
		}
	}
	slices.SortFunc(all, func(a, b api.Entry) int { return bytes.Compare(a.Key, b.Key) })
	return all
}
