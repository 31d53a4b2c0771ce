package intent

import (
	"bytes"

	"commonhold/api"
)

// within: whether a number is from the least one to MaxCount.
func within(n, least int) bool { return n >= least && n <= api.MaxCount }

func mayRead(l []api.Range) bool {
	if len(l) > api.MaxReads {
		return false
	}
	// One byte more than a key has: a range may end right behind the longest key. That it ends ahead of where it begins is no fault, it has no keys then.
	const most = api.MaxKey + 1
	for _, r := range l {
		if len(r.Low) > most || len(r.High) > most {
			return false
		}
	}
	return true
}

func mayWrite(l []api.Write) bool {
	if len(l) > api.MaxWrites {
		return false
	}
	for i, w := range l {
		if !mayBeWritten(w) || i > 0 && bytes.Compare(l[i-1].Key, w.Key) >= 0 {
			return false
		}
	}
	return true
}

// mayBeWritten: whether a write may be, by itself.
func mayBeWritten(w api.Write) bool {
	if len(w.Key) < 1 || len(w.Key) > api.MaxKey || len(w.Value) > api.MaxBody {
		return false
	}
	return !w.Gone || len(w.Value) == 0
}
