package intent

import (
	"math"
	"math/rand"
	"testing"

	"commonhold/api"
)

func checkMay(t *testing.T, what string, x api.Intent, want bool) {
	t.Helper()
	if May(x) != want {
		t.Errorf("May of %s: %t, want %t", what, !want, want)
	}
}

// P17.1: Client, Number and Base, each alone.
func TestMayNumbers(t *testing.T) {
	for n, want := range map[int]bool{
		math.MinInt64: false, math.MinInt64 + 1: false, -1 << 32: false, 1 - 1<<32: false, -api.MaxCount: false, -1: false,
		1: true, 2: true, 255: true, 256: true, 65536: true, api.MaxCount - 1: true, api.MaxCount: true,
		api.MaxCount + 1: false, math.MaxInt32: false, 1 << 31: false, 1<<32 - 1: false, 1 << 32: false, 1<<32 + 1: false, math.MaxInt64 - 1: false, math.MaxInt64: false,
	} {
		checkMay(t, "a Client", api.Intent{Client: n, Number: 1}, want)
		checkMay(t, "a Number", api.Intent{Client: 1, Number: n}, want)
		checkMay(t, "a Base", api.Intent{Client: 1, Number: 1, Base: n}, want)
	}
	checkMay(t, "no Client", api.Intent{Number: 1}, false)
	checkMay(t, "no Number", api.Intent{Client: 1}, false)
	checkMay(t, "Base 0", api.Intent{Client: 1, Number: 1}, true)
	checkMay(t, "nothing", api.Intent{}, false)
	checkMay(t, "a Base above Number and Client", api.Intent{Client: 1, Number: 2, Base: 300}, true)
}

// P17.1: how many Reads and Writes there are.
func TestMayCounts(t *testing.T) {
	for _, n := range []int{0, 1, 2, api.MaxReads - 1, api.MaxReads} {
		checkMay(t, "Reads", with(make([]api.Range, n), nil), true)
	}
	for _, n := range []int{0, 1, 2, api.MaxWrites - 1, api.MaxWrites} {
		checkMay(t, "Writes", with(nil, counted(n)), true)
	}
	checkMay(t, "all there may be", with(make([]api.Range, api.MaxReads), counted(api.MaxWrites)), true)
	for _, n := range []int{1, 2, 1000} {
		checkMay(t, "too many Reads", with(make([]api.Range, api.MaxReads+n), nil), false)
		checkMay(t, "too many Writes", with(nil, counted(api.MaxWrites+n)), false)
	}
}

// P17.1: Low and High.
func TestMayReads(t *testing.T) {
	for n, want := range map[int]bool{0: true, 1: true, api.MaxKey: true, api.MaxKey + 1: true, api.MaxKey + 2: false, api.MaxBody: false, 1 << 16: false, 1<<16 + 1: false} {
		for _, l := range [][]api.Range{
			reads(read(long(n), "")), reads(read("", long(n))), reads(read(long(n), long(n))),
			reads(read("a", "b"), read(long(n), "b")), reads(read("a", "b"), read("a", long(n))), reads(read(long(n), "b"), read("a", "b")),
		} {
			checkMay(t, "ranges", with(l, nil), want)
		}
	}
	// What ranges have in them, and how they stand to each other, is all the same.
	checkMay(t, "a High ahead of its Low", with(reads(read("b", "a")), nil), true)
	checkMay(t, "a High that is its Low", with(reads(read("a", "a")), nil), true)
	checkMay(t, "ranges that descend and cover", with(reads(read("c", "d"), read("a", "z"), read("a", "z")), nil), true)
	all := with(make([]api.Range, api.MaxReads), nil)
	all.Reads[api.MaxReads-1].High = []byte(long(api.MaxKey + 2))
	checkMay(t, "a last High", all, false)
}

// P17.1: Keys and Values, each alone.
func TestMayWrites(t *testing.T) {
	for n, want := range map[int]bool{0: false, 1: true, 2: true, api.MaxKey - 1: true, api.MaxKey: true, api.MaxKey + 1: false, api.MaxKey + 2: false, 1 << 16: false, 1<<16 + 1: false} {
		checkMay(t, "a Key", with(nil, writes(set(long(n), "v"))), want)
		checkMay(t, "a Key that is Gone", with(nil, writes(drop(long(n)))), want)
		checkMay(t, "a second Key", with(nil, writes(set("a", ""), set(long(n), ""))), want)
		checkMay(t, "a first Key", with(nil, writes(set(long(n), ""), set("z", ""))), want)
	}
	for n, want := range map[int]bool{0: true, 1: true, api.MaxKey + 1: true, api.MaxKey + 2: true, api.MaxBody - 1: true, api.MaxBody: true, api.MaxBody + 1: false, 1 << 16: false, 1<<16 + 1: false} {
		checkMay(t, "a Value", with(nil, writes(set("a", long(n)))), want)
		checkMay(t, "a second Value", with(nil, writes(set("a", ""), set("b", long(n)))), want)
		checkMay(t, "a first Value", with(nil, writes(set("a", long(n)), set("b", ""))), want)
		gone := api.Write{Key: []byte("b"), Value: []byte(long(n)), Gone: true}
		checkMay(t, "Gone with a Value", with(nil, writes(gone)), n == 0)
		checkMay(t, "Gone with a Value, in between", with(nil, writes(set("a", ""), gone, set("c", ""))), n == 0)
	}
	checkMay(t, "Gone with a list without elements", with(nil, writes(api.Write{Key: []byte("a"), Value: []byte{}, Gone: true})), true)
}

// P17.1: Keys ascend.
func TestMayKeys(t *testing.T) {
	for _, keys := range [][]string{{"a", "b"}, {"a", "aa"}, {"a", "a\x00"}, {"\x00", "\x00\x00"}, {"a", "ab", "b"}, {"aa", "b"}, {"\x7f", "\x80"}, {"\x80", "\xff"}, {"\x7f", "\xff"}, {"\x00", "\x7f", "\x80", "\xff", "\xff\x00", "\xff\xff"}, {long(api.MaxKey - 1), long(api.MaxKey)}} {
		var up, down []api.Write
		for i, k := range keys {
			up = append(up, set(k, "v"))
			down = append(down, set(keys[len(keys)-1-i], "v"))
		}
		checkMay(t, "keys that ascend", with(nil, up), true)
		checkMay(t, "keys that descend", with(nil, down), false)
		for i := range up {
			twice := append(append(writes(), up[:i+1]...), up[i:]...)
			checkMay(t, "a key twice", with(nil, twice), false)
			twice[i].Gone, twice[i].Value = true, nil
			checkMay(t, "a key that is Gone and not", with(nil, twice), false)
		}
		checkMay(t, "a key twice, with others between", with(nil, append(up, up[0])), false)
	}
	all := counted(api.MaxWrites)
	all[api.MaxWrites-1].Key = all[api.MaxWrites-2].Key
	checkMay(t, "the last key twice", with(nil, all), false)
}

// P17.1: the tests' lists, and many more.
func TestMay(t *testing.T) {
	for _, x := range goodOnes() {
		checkMay(t, "a good one", x, true)
	}
	for what, x := range badOnes() {
		checkMay(t, what, x, false)
	}
	for what, x := range longOnes() {
		checkMay(t, what, x, false)
	}
	// How many bytes there would be is not asked.
	checkMay(t, "one too long", sizedOf(api.MaxBody+1), true)
	random := rand.New(rand.NewSource(17))
	yes := 0
	for range 20000 {
		x := randomIntent(random)
		want := modelMay(x)
		checkMay(t, "whatever came", x, want)
		if want {
			yes++
		}
	}
	if yes < 5000 || yes > 15000 {
		t.Errorf("%d of 20000 may be: too much of one kind", yes)
	}
}
