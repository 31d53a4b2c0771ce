package meld

import (
	"bytes"
	"cmp"

	"commonhold/api"
)

// mayHave: whether a state behind that position may have these cells.
func mayHave(l []api.Cell, at int) bool {
	for i, c := range l {
		if !mayBeCell(c) || c.Since < 1 || c.Since > at {
			return false
		}
		if i > 0 && bytes.Compare(l[i-1].Key, c.Key) >= 0 {
			return false
		}
	}
	return true
}

// mayBeCell: whether a cell may be, but for its position.
func mayBeCell(c api.Cell) bool {
	if len(c.Key) < 1 || len(c.Key) > api.MaxKey || len(c.Value) > api.MaxBody {
		return false
	}
	return !c.Gone || len(c.Value) == 0
}

// mayHaveDone: whether a state behind that position may have these Dones. That two of them have one position is not asked.
func mayHaveDone(l []api.Done, at int) bool {
	for i, d := range l {
		if !mayCount(d.Client) || !mayCount(d.Number) || d.At < 1 || d.At > at {
			return false
		}
		if i > 0 && compareDones(l[i-1], d) >= 0 {
			return false
		}
	}
	return true
}

func mayCount(n int) bool { return n >= 1 && n <= api.MaxCount }

// compareDones: by whose they are, Client and Number; what became of them is all the same.
func compareDones(a, b api.Done) int {
	return cmp.Or(cmp.Compare(a.Client, b.Client), cmp.Compare(a.Number, b.Number))
}
