package row

import (
	"bytes"
	"math"
	"math/rand"
	"testing"

	"commonhold/api"
)

func checkSpan(t *testing.T, table, index int, want api.Range, code api.Errno) {
	t.Helper()
	got, e := Span(table, index)
	if e != code || !bytes.Equal(got.Low, want.Low) || !bytes.Equal(got.High, want.High) {
		t.Errorf("Span(%d, %d): %v, %d; want %v, %d", table, index, got, e, want, code)
	}
	again, _ := Span(table, index)
	if sharing(got, again) {
		t.Errorf("Span(%d, %d) shares memory", table, index)
	}
}

// P14.1: the keys of each index there may be.
func TestSpan(t *testing.T) {
	for table := range byte(4) {
		for index := range byte(3) {
			low := []byte{4, 128, 0, 0, 0, 0, 0, 0, table, 4, 128, 0, 0, 0, 0, 0, 0, index}
			high := []byte{4, 128, 0, 0, 0, 0, 0, 0, table, 4, 128, 0, 0, 0, 0, 0, 0, index + 1}
			checkSpan(t, int(table), int(index), api.Range{Low: low, High: high}, api.OK)
		}
	}
}

// P14.1: what is refused.
func TestSpanRefuses(t *testing.T) {
	wrong := []int{-1, -2, 1 << 8, 1 << 32, -1 << 32, math.MaxInt64, math.MinInt64}
	tables := append(wrong, api.MaxTables, api.MaxTables+1)
	indexes := append(wrong, api.MaxIndex+1, api.MaxIndex+2)
	for _, table := range tables {
		for index := range api.MaxIndex + 1 {
			checkSpan(t, table, index, api.Range{}, api.ErrRange)
		}
		for _, index := range indexes {
			checkSpan(t, table, index, api.Range{}, api.ErrRange)
		}
	}
	for _, index := range indexes {
		for table := range api.MaxTables {
			checkSpan(t, table, index, api.Range{}, api.ErrRange)
		}
	}
}

// P14.1: no two indexes have a key in common.
func TestSpansApart(t *testing.T) {
	var ahead []byte
	for table := range api.MaxTables {
		for index := range api.MaxIndex + 1 {
			s, _ := Span(table, index)
			if bytes.Compare(ahead, s.Low) > 0 || bytes.Compare(s.Low, s.High) >= 0 {
				t.Errorf("table %d, index %d: %v, behind %v", table, index, s, ahead)
			}
			ahead = s.High
		}
	}
}

// P14.1: all entries of an index lie in its span.
func TestSpansHoldEntries(t *testing.T) {
	random := rand.New(rand.NewSource(1))
	for range 300 {
		l := randomCatalog(random)
		table := random.Intn(len(l))
		made, code := Entries(l, table, randomRow(random, l[table].Columns))
		if code != api.OK {
			t.Fatalf("%s: %d", brief(l), code)
		}
		for index, e := range made {
			s, _ := Span(table, index)
			if bytes.Compare(s.Low, e.Key) > 0 || bytes.Compare(e.Key, s.High) >= 0 {
				t.Errorf("table %d, index %d: %v is not in %v", table, index, e.Key, s)
			}
		}
	}
}
