package exec

import (
	"bytes"
	"fmt"
	"math/rand"
	"slices"
	"testing"

	"commonhold/api"
)

// checkApply: what Apply answers, with spare room and without; what was handed in stays, and nothing is shared.
func checkApply(t *testing.T, snap []api.Entry, writes []api.Write, want []api.Entry, code api.Errno) {
	t.Helper()
	for range 2 {
		kept := toldOf(snap, writes)
		got, e := Apply(snap, writes)
		if e != code || !alikeEntries(got, want) {
			t.Errorf("Apply(%s, %s): %s, %d; want %s, %d", brief(snap), brief(writes), brief(got), e, brief(want), code)
		}
		if toldOf(snap, writes) != kept {
			t.Errorf("Apply(%s, %s) changes what it is given", brief(snap), brief(writes))
		}
		if again, _ := Apply(snap, writes); sharing(got, snap, writes, again) {
			t.Errorf("Apply(%s, %s): %s shares memory", brief(snap), brief(writes), brief(got))
		}
		snap, writes = roomyEntries(snap), roomyWrites(writes)
	}
}

// entry: of two texts.
func entry(key, value string) api.Entry {
	return api.Entry{Key: []byte(key), Value: []byte(value)}
}

func entries(l ...api.Entry) []api.Entry { return l }

func put(key, value string) api.Write {
	return api.Write{Key: []byte(key), Value: []byte(value)}
}

func gone(key string) api.Write { return api.Write{Key: []byte(key), Gone: true} }

func writes(l ...api.Write) []api.Write { return l }

// P16.1: no entries, no writes.
func TestApplyNothing(t *testing.T) {
	some := entries(entry("b", "1"), entry("d", "2"), entry("f", ""))
	checkApply(t, nil, nil, nil, api.OK)
	checkApply(t, []api.Entry{}, []api.Write{}, nil, api.OK)
	checkApply(t, some, nil, some, api.OK)
	checkApply(t, nil, writes(put("d", "2"), put("f", ""), put("b", "1")), some, api.OK)
	checkApply(t, nil, writes(gone("b"), gone("d")), nil, api.OK)
}

// P16.1: keys that are new, and keys that are there.
func TestApplyPuts(t *testing.T) {
	b, d, f := entry("b", "1"), entry("d", "2"), entry("f", "3")
	some := entries(b, d, f)
	checkApply(t, some, writes(put("a", "9")), entries(entry("a", "9"), b, d, f), api.OK)
	checkApply(t, some, writes(put("", "9")), entries(entry("", "9"), b, d, f), api.OK)
	checkApply(t, some, writes(put("c", "9")), entries(b, entry("c", "9"), d, f), api.OK)
	checkApply(t, some, writes(put("bb", "")), entries(b, entry("bb", ""), d, f), api.OK)
	checkApply(t, some, writes(put("b\x00", "")), entries(b, entry("b\x00", ""), d, f), api.OK)
	checkApply(t, some, writes(put("g", "9")), entries(b, d, f, entry("g", "9")), api.OK)
	checkApply(t, some, writes(put("b", "9")), entries(entry("b", "9"), d, f), api.OK)
	checkApply(t, some, writes(put("d", "")), entries(b, entry("d", ""), f), api.OK)
	checkApply(t, some, writes(put("f", "3")), some, api.OK)
	checkApply(t, some, writes(put("f", "longer than it was")), entries(b, d, entry("f", "longer than it was")), api.OK)
	checkApply(t, entries(entry("", "1")), writes(put("", "2")), entries(entry("", "2")), api.OK)
	checkApply(t, some, writes(put("g", "1"), put("e", "2"), put("c", "3"), put("a", "4")), entries(entry("a", "4"), b, entry("c", "3"), d, entry("e", "2"), f, entry("g", "1")), api.OK)
}

// P16.1: Gone of keys that are there, and of keys that are not.
func TestApplyGone(t *testing.T) {
	b, d, f := entry("b", "1"), entry("d", "2"), entry("f", "3")
	some := entries(b, d, f)
	checkApply(t, some, writes(gone("b")), entries(d, f), api.OK)
	checkApply(t, some, writes(gone("d")), entries(b, f), api.OK)
	checkApply(t, some, writes(gone("f")), entries(b, d), api.OK)
	checkApply(t, some, writes(gone("f"), gone("b"), gone("d")), nil, api.OK)
	for _, key := range []string{"", "a", "bb", "c", "e", "g", "b\x00"} {
		checkApply(t, some, writes(gone(key)), some, api.OK)
	}
	checkApply(t, some, writes(gone("d"), gone("d")), entries(b, f), api.OK)
	// What is Gone has nothing, whatever the write says.
	checkApply(t, some, writes(api.Write{Key: []byte("d"), Value: []byte("9"), Gone: true}), entries(b, f), api.OK)
	checkApply(t, some, writes(api.Write{Key: []byte("e"), Value: []byte("9"), Gone: true}), some, api.OK)
}

// P16.1: one key written several times by one list: the last one counts.
func TestApplyOneByOne(t *testing.T) {
	b, f := entry("b", "1"), entry("f", "3")
	some := entries(b, f)
	for _, key := range []string{"a", "b", "d", "f", "g"} {
		left := slices.DeleteFunc(slices.Clone(some), func(e api.Entry) bool { return string(e.Key) == key })
		with := append(slices.Clone(left), entry(key, "8"))
		slices.SortFunc(with, func(x, y api.Entry) int { return bytes.Compare(x.Key, y.Key) })
		checkApply(t, some, writes(put(key, "7"), put(key, "8")), with, api.OK)
		checkApply(t, some, writes(put(key, "7"), gone(key), put(key, "8")), with, api.OK)
		checkApply(t, some, writes(gone(key), put(key, "8")), with, api.OK)
		checkApply(t, some, writes(put(key, "7"), gone(key)), left, api.OK)
		checkApply(t, some, writes(gone(key), put(key, "7"), gone(key)), left, api.OK)
	}
}

// counted: so many entries, from a number on.
func counted(from, count int) []api.Entry {
	var l []api.Entry
	for i := range count {
		l = append(l, entry(fmt.Sprintf("k%05d", from+i), fmt.Sprint(from+i)))
	}
	return l
}

// P16.1: how many entries and writes may come in.
func TestApplySizesIn(t *testing.T) {
	full := counted(0, api.MaxSnap)
	checkApply(t, counted(0, api.MaxSnap-1), nil, counted(0, api.MaxSnap-1), api.OK)
	checkApply(t, full, nil, full, api.OK)
	checkApply(t, counted(0, api.MaxSnap+1), nil, nil, api.ErrSize)
	checkApply(t, counted(0, api.MaxSnap+1), writes(gone("k00000")), nil, api.ErrSize)
	checkApply(t, counted(0, 4*api.MaxSnap), drops(counted(0, api.MaxWrites)...), nil, api.ErrSize)

	checkApply(t, nil, drops(counted(0, api.MaxWrites)...), nil, api.OK)
	checkApply(t, nil, slices.Repeat(writes(put("k", "v")), api.MaxWrites-1), entries(entry("k", "v")), api.OK)
	checkApply(t, nil, slices.Repeat(writes(put("k", "v")), api.MaxWrites), entries(entry("k", "v")), api.OK)
	checkApply(t, nil, slices.Repeat(writes(put("k", "v")), api.MaxWrites+1), nil, api.ErrSize)
	checkApply(t, nil, drops(counted(0, api.MaxWrites+1)...), nil, api.ErrSize)
	checkApply(t, full, make([]api.Write, api.MaxWrites+1), nil, api.ErrSize)
}

// P16.1: how many entries may come out; on the way there may be more.
func TestApplySizesOut(t *testing.T) {
	full, half := counted(0, api.MaxSnap), api.MaxSnap/2
	checkApply(t, full[:api.MaxSnap-1], puts(full[api.MaxSnap-1]), full, api.OK)
	checkApply(t, full, puts(counted(api.MaxSnap, 1)...), nil, api.ErrSize)
	checkApply(t, full, writes(put("a", "")), nil, api.ErrSize)
	checkApply(t, nil, puts(full...), full, api.OK)
	checkApply(t, nil, puts(counted(0, api.MaxSnap+1)...), nil, api.ErrSize)
	checkApply(t, full, puts(full...), full, api.OK)
	checkApply(t, full[:half], puts(full[half:]...), full, api.OK)
	checkApply(t, full[:half], puts(counted(half, half+1)...), nil, api.ErrSize)

	checkApply(t, full, writes(put("a", ""), gone("a")), full, api.OK)
	checkApply(t, full, writes(put("a", ""), gone("k00000")), append(entries(entry("a", "")), full[1:]...), api.OK)
	checkApply(t, full, writes(put("a", ""), put("b", ""), gone("a")), nil, api.ErrSize)
	many := counted(api.MaxSnap, half)
	checkApply(t, full, slices.Concat(puts(many...), drops(many...)), full, api.OK)
	checkApply(t, full, slices.Concat(puts(many...), drops(many[1:]...)), nil, api.ErrSize)
	checkApply(t, full, slices.Concat(puts(many...), drops(full[:half]...)), slices.Concat(full[half:], many), api.OK)
	checkApply(t, full, slices.Concat(drops(full...), puts(counted(api.MaxSnap, api.MaxSnap)...)), counted(api.MaxSnap, api.MaxSnap), api.OK)
}

// P16.1: keys that do not ascend.
func TestApplyNotAscending(t *testing.T) {
	a, b, c := entry("a", "1"), entry("b", "2"), entry("c", "3")
	for _, snap := range [][]api.Entry{
		{b, a}, {a, a}, {a, entry("a", "2")}, {a, c, b}, {b, a, c}, {c, b, a}, {a, b, b}, {a, a, b}, {a, b, a}, {entry("", ""), entry("", "")}, {a, entry("", "")},
		{entry("a\x00", ""), a}, {entry("ab", ""), a}, {entry("\xff", ""), entry("\x00", "")}, {entry("\x80", ""), entry("\x7f", "")},
	} {
		checkApply(t, snap, nil, nil, api.ErrForm)
		checkApply(t, snap, writes(put("d", "")), nil, api.ErrForm)
		// That the writes would mend it does not matter.
		checkApply(t, snap, drops(snap...), nil, api.ErrForm)
	}
	for _, snap := range [][]api.Entry{{a}, {a, entry("a\x00", "")}, {a, entry("ab", ""), b}, {entry("", ""), entry("\x00", "")}, {entry("\x7f", ""), entry("\x80", ""), entry("\xff", "")}} {
		checkApply(t, snap, nil, snap, api.OK)
	}
	// The keys of writes need not ascend.
	checkApply(t, nil, writes(put("c", "3"), put("a", "1"), put("b", "2")), entries(a, b, c), api.OK)
}

// P16.1: where several are wrong, the one named first is told.
func TestApplyOfSeveralWrongs(t *testing.T) {
	wrong := slices.Repeat(entries(entry("a", "")), 2)
	checkApply(t, slices.Repeat(wrong, api.MaxSnap), nil, nil, api.ErrSize)
	checkApply(t, slices.Repeat(wrong, api.MaxSnap), slices.Repeat(writes(gone("a")), api.MaxWrites+1), nil, api.ErrSize)
	checkApply(t, wrong, slices.Repeat(writes(gone("a")), api.MaxWrites+1), nil, api.ErrSize)
	checkApply(t, slices.Repeat(entries(entry("a", "")), api.MaxSnap), puts(counted(0, 5)...), nil, api.ErrForm)
	checkApply(t, append(counted(0, api.MaxSnap-1), entry("a", "")), puts(counted(api.MaxSnap, 5)...), nil, api.ErrForm)
}

// P16.1: whatever entries and writes of few keys.
func TestApplyMany(t *testing.T) {
	random := rand.New(rand.NewSource(16))
	key := func() string { return string("\x00ab\xff"[random.Intn(4)]) + string("\x00ab\xff"[random.Intn(4)]) }
	for range 3000 {
		had := map[string]string{}
		for range random.Intn(8) {
			had[key()] = fmt.Sprint(random.Intn(10))
		}
		snap := inOrder(had)
		var l []api.Write
		for i := range random.Intn(8) {
			k := key()
			if random.Intn(3) == 0 {
				l = append(l, gone(k))
				delete(had, k)
			} else {
				l = append(l, put(k, fmt.Sprint("w", i)))
				had[k] = fmt.Sprint("w", i)
			}
		}
		checkApply(t, snap, l, inOrder(had), api.OK)
	}
}

// inOrder: entries by their keys.
func inOrder(had map[string]string) []api.Entry {
	var l []api.Entry
	for k, v := range had {
		l = append(l, entry(k, v))
	}
	slices.SortFunc(l, func(a, b api.Entry) int { return bytes.Compare(a.Key, b.Key) })
	return l
}
