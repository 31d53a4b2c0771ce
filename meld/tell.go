package meld

import "commonhold/api"

// The byte that tells whether something is so: whether a cell is Gone, or what was Done was Kept.
const (
	notSo = 0
	isSo  = 1
)

// tellState: the bytes of a state that may be.
func tellState(s api.State) []byte {
	var b []byte
	b = tellNumber(b, s.At)
	b = tellNumber(b, len(s.Cells))
	for _, c := range s.Cells {
		b = tellText(b, c.Key)
		b = tellWhether(b, c.Gone)
		b = tellText(b, c.Value)
		b = tellNumber(b, c.Since)
	}
	b = tellNumber(b, len(s.Dones))
	for _, d := range s.Dones {
		b = tellNumber(b, d.Client)
		b = tellNumber(b, d.Number)
		b = tellNumber(b, d.At)
		b = tellWhether(b, d.Kept)
	}
	return b
}

// tellNumber: b, and four bytes behind it.
func tellNumber(b []byte, n int) []byte {
	return append(b, byte(n), byte(n>>8), byte(n>>16), byte(n>>24))
}

// tellText: b, and how many bytes a text has and these bytes behind it.
func tellText(b, text []byte) []byte {
	return append(tellNumber(b, len(text)), text...)
}

// tellWhether: b, and the byte that tells whether something is so behind it.
func tellWhether(b []byte, so bool) []byte {
	if so {
		return append(b, isSo)
	}
	return append(b, notSo)
}
