package exec

import (
	"bytes"
	"slices"

	"commonhold/api"
)

// ascend: whether each key stands behind the one ahead of it, so that no two are the same.
func ascend(l []api.Entry) bool {
	for i := 1; i < len(l); i++ {
		if bytes.Compare(l[i-1].Key, l[i].Key) >= 0 {
			return false
		}
	}
	return true
}

// found: where a key stands among entries that ascend, or would have to; and whether it is there.
func found(l []api.Entry, key []byte) (int, bool) {
	return slices.BinarySearchFunc(l, key, func(e api.Entry, key []byte) int { return bytes.Compare(e.Key, key) })
}

// written: entries that ascend, behind one write. It works in the list itself, and shares the write's bytes.
func written(l []api.Entry, w api.Write) []api.Entry {
	at, there := found(l, w.Key)
	e := api.Entry{Key: w.Key, Value: w.Value}
	switch {
	case w.Gone && there:
		return slices.Delete(l, at, at+1)
	case w.Gone:
		return l
	case there:
		l[at] = e
		return l
	}
	return slices.Insert(l, at, e)
}

// copied: entries of new memory.
func copied(l []api.Entry) []api.Entry {
	var c []api.Entry
	for _, e := range l {
		c = append(c, api.Entry{Key: copiedBytes(e.Key), Value: copiedBytes(e.Value)})
	}
	return c
}

// copiedBytes: bytes of new memory. Not by bytes.Clone: of none it keeps hold of the memory behind them.
func copiedBytes(b []byte) []byte {
	return append([]byte(nil), b...)
}
