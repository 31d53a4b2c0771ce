package intent

import "commonhold/api"

// The byte that tells whether a write is Gone.
const (
	notGone = 0
	isGone  = 1
)

// tellIntent: the bytes of an intent that may be, however many they are.
func tellIntent(x api.Intent) []byte {
	var b []byte
	b = tellNumber(b, x.Client)
	b = tellNumber(b, x.Number)
	b = tellNumber(b, x.Base)
	b = tellNumber(b, len(x.Reads))
	for _, r := range x.Reads {
		b = tellText(b, r.Low)
		b = tellText(b, r.High)
	}
	b = tellNumber(b, len(x.Writes))
	for _, w := range x.Writes {
		b = tellText(b, w.Key)
		b = append(b, goneByte(w.Gone))
		b = tellText(b, w.Value)
	}
	return b
}

// tellNumber: b, and four bytes behind it.
func tellNumber(b []byte, n int) []byte {
	return append(b, byte(n), byte(n>>8), byte(n>>16), byte(n>>24))
}

// tellText: b, and how many bytes a text has and these bytes behind it.
func tellText(b, text []byte) []byte {
	return append(tellNumber(b, len(text)), text...)
}

func goneByte(gone bool) byte {
	if gone {
		return isGone
	}
	return notGone
}
