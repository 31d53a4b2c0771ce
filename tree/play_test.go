package tree

import (
	"fmt"
	"math"
	"math/rand"
	"slices"
	"strings"
	"testing"

	"commonhold/api"
)

// P13.1
func TestPlay(t *testing.T) {
	plays(t,
		deeds(
			put(0, "b", "20"), put(1, "a", "10"), put(1, "b", "21"),
			lookUp(1, "b"), lookUp(2, "b"), lookUp(3, "b"), lookUp(0, "b"), lookUp(2, "a"), lookUp(3, "a"),
			scanAll(0), scanAll(1), scanAll(2), scanAll(3),
			drop(2, "a"), drop(1, "z"), scanAll(4), drop(4, "b"), scanAll(5), scanAll(2),
		),
		made(1), made(2), made(3),
		valued("20"), valued("20"), valued("21"), coded(api.ErrNone), valued("10"), coded(api.ErrNone),
		having(), having("b", "20"), having("a", "10", "b", "20"), having("b", "21"),
		made(4), coded(api.ErrNone), having("b", "20"), made(5), having(), having("a", "10", "b", "20"),
	)
}

// P13.1: no deeds, MaxPlay of them, and one more.
func TestPlaySize(t *testing.T) {
	plays(t, nil)
	plays(t, []api.Deed{})
	for _, d := range deeds(put(0, "a", "b"), drop(0, "a"), lookUp(0, "a"), scanAll(0), api.Deed{}, api.Deed{Kind: 5, Version: -1}, put(7, "", "")) {
		l := slices.Repeat(deeds(d), api.MaxPlay)
		want, _ := wanted(l)
		plays(t, l, want...)
		for _, more := range []int{1, 2, api.MaxPlay} {
			checkPlay(t, append(slices.Clone(l), l[:more]...), nil, api.ErrSize)
		}
	}
	l := inRow(counted(api.MaxPlay)...)
	want, _ := wanted(l)
	plays(t, l, want...)
	if last := want[len(want)-1]; last.Version != api.MaxPlay {
		t.Errorf("the last version is %d", last.Version)
	}
	checkPlay(t, inRow(counted(api.MaxPlay+1)...), nil, api.ErrSize)
	checkPlay(t, make([]api.Deed, 1<<16), nil, api.ErrSize)
}

// noVersions: numbers of versions that are not there, where there are n beside Version 0.
func noVersions(n int) []int {
	return []int{-1, -2, n + 1, n + 2, 99, api.MaxPlay, math.MinInt64, math.MinInt64 + 1, math.MaxInt64, math.MaxInt64 - 1}
}

// P13.1: a Kind that is none, ahead of all else that is refused.
func TestPlayKinds(t *testing.T) {
	first := deeds(put(0, "a", "1"), put(1, "b", "2"))
	for _, kind := range []int{0, 5, 6, -1, -2, -4, 99, math.MaxInt64, math.MinInt64} {
		for _, version := range append(noVersions(2), 0, 1, 2) {
			for _, d := range deeds(put(version, "a", "1"), put(version, "", ""), drop(version, "z"), scanFrom(version, "", "", -1), put(version, strings.Repeat("a", api.MaxKey+1), strings.Repeat("a", api.MaxBody+1))) {
				d.Kind = kind
				comesBehind(t, first, deeds(d, put(2, "c", "3")), coded(api.ErrKind), made(3))
			}
		}
	}
}

// ofEachKind: deeds that are not refused where a version has the key a.
func ofEachKind(version int) []api.Deed {
	return deeds(put(version, "a", "2"), put(version, "b", "2"), drop(version, "a"), lookUp(version, "a"), scanFrom(version, "a", "b", 1), scanAll(version))
}

// P13.1: a Version that is not there, ahead of each deed's own errors.
func TestPlayVersions(t *testing.T) {
	first := deeds(put(0, "a", "1"), put(1, "b", "2"))
	for _, version := range noVersions(2) {
		for _, d := range ofEachKind(version) {
			comesBehind(t, first, deeds(d, put(2, "c", "3")), coded(api.ErrRange), made(3))
		}
		for _, d := range deeds(
			put(version, "", "1"), put(version, strings.Repeat("a", api.MaxKey+1), ""), put(version, "a", strings.Repeat("a", api.MaxBody+1)),
			drop(version, "z"), drop(version, ""), lookUp(version, "z"), lookUp(version, ""), scanFrom(version, "", "", -1), scanFrom(version, "b", "a", 0),
		) {
			comesBehind(t, first, deeds(d), coded(api.ErrRange))
		}
	}
	comesBehind(t, nil, ofEachKind(1), coded(api.ErrRange), coded(api.ErrRange), coded(api.ErrRange), coded(api.ErrRange), coded(api.ErrRange), coded(api.ErrRange))
	comesBehind(t, first, ofEachKind(0), made(3), made(4), coded(api.ErrNone), coded(api.ErrNone), having(), having())
	comesBehind(t, first, ofEachKind(1), made(3), made(4), made(5), valued("1"), having("a", "1"), having("a", "1"))
	comesBehind(t, first, ofEachKind(2), made(3), made(4), made(5), valued("1"), having("a", "1"), having("a", "1", "b", "2"))
}

// P13.1: a version is there behind the deed that makes it, and not ahead.
func TestPlayVersionsToCome(t *testing.T) {
	for i := range ofEachKind(3) {
		d := ofEachKind(3)[i]
		l := deeds(put(0, "a", "1"), d, put(1, "a", "1"), d, put(2, "a", "1"), d)
		want, f := wanted(l)
		if want[1].Code != api.ErrRange || want[3].Code != api.ErrRange || want[5].Code != api.OK {
			t.Fatalf("what is wanted of %s: %s, %s", brief(l), brief(want), brief(f))
		}
		plays(t, l, want...)
	}
}

// P13.1: what is refused, and what only reads, takes no number.
func TestPlayNumbers(t *testing.T) {
	for _, x := range []struct {
		d    api.Deed
		want api.Found
	}{
		{api.Deed{}, coded(api.ErrKind)}, {put(9, "a", ""), coded(api.ErrRange)}, {put(1, "", ""), coded(api.ErrSize)}, {put(1, "x", strings.Repeat("a", api.MaxBody+1)), coded(api.ErrSize)},
		{drop(1, "z"), coded(api.ErrNone)}, {drop(1, ""), coded(api.ErrNone)}, {drop(-1, "a"), coded(api.ErrRange)},
		{lookUp(1, "z"), coded(api.ErrNone)}, {lookUp(1, "a"), valued("1")}, {scanAll(1), having("a", "1")}, {scanFrom(1, "", "", -1), coded(api.ErrRange)},
	} {
		plays(t, deeds(put(0, "a", "1"), x.d, put(1, "b", "2"), x.d, x.d, drop(2, "a"), scanAll(3)), made(1), x.want, made(2), x.want, x.want, made(3), having("b", "2"))
	}
	// What changes nothing takes one.
	plays(t, deeds(put(0, "a", "1"), put(1, "a", "1"), put(1, "a", "1"), scanAll(3)), made(1), made(2), made(3), having("a", "1"))
}

// P13.1: how long a Put's Key and Value may be; with each other, too.
func TestPutSizes(t *testing.T) {
	for _, k := range []int{0, 1, 2, api.MaxKey - 1, api.MaxKey, api.MaxKey + 1, api.MaxBody, 1 << 16} {
		for _, v := range []int{0, 1, api.MaxKey + 1, api.MaxBody - 1, api.MaxBody, api.MaxBody + 1, 1 << 16} {
			key, value := strings.Repeat("k", k), strings.Repeat("v", v)
			l := deeds(put(0, key, value), lookUp(1, key), scanAll(1), drop(1, key))
			if k == 0 || k > api.MaxKey || v > api.MaxBody {
				plays(t, l, coded(api.ErrSize), coded(api.ErrRange), coded(api.ErrRange), coded(api.ErrRange))
				continue
			}
			plays(t, l, made(1), valued(value), having(key, value), made(2))
		}
	}
	plays(t, deeds(api.Deed{Kind: api.Put, Key: []byte("a")}, lookUp(1, "a"), scanAll(1)), made(1), valued(""), having("a", ""))
	plays(t, deeds(api.Deed{Kind: api.Put}, api.Deed{Kind: api.Drop}, api.Deed{Kind: api.Look}, api.Deed{Kind: api.Scan}), coded(api.ErrSize), coded(api.ErrNone), coded(api.ErrNone), having())
}

// P13.1: a Put's and a Look's Limit, a Drop's and a Look's Value: nothing is asked of them.
func TestPlayFieldsNotAsked(t *testing.T) {
	long := []byte(strings.Repeat("a", api.MaxBody+1))
	for _, limit := range []int{-1, 0, 1, math.MinInt64, math.MaxInt64} {
		plays(t,
			deeds(
				api.Deed{Kind: api.Put, Key: []byte("a"), Value: []byte("1"), Limit: limit}, api.Deed{Kind: api.Look, Version: 1, Key: []byte("a"), Value: long, Limit: limit},
				api.Deed{Kind: api.Drop, Version: 1, Key: []byte("a"), Value: long, Limit: limit}, scanAll(2),
			),
			made(1), valued("1"), made(2), having(),
		)
	}
	// Of what is looked for, no length is refused.
	comesBehind(t, deeds(put(0, "b", "1")),
		deeds(lookUp(1, string(long)), drop(1, string(long)), scanFrom(1, string(long), "", 9), scanFrom(1, "", string(long), 9), scanFrom(1, "", "c"+string(long), 9)),
		coded(api.ErrNone), coded(api.ErrNone), having("b", "1"), having(), having("b", "1"))
}

// P13.1: a Key that is there and one that is not, at each place.
func TestPutPlaces(t *testing.T) {
	first := deeds(put(0, "b", "1"), put(1, "d", "2"), put(2, "f", "3"))
	for _, x := range []struct {
		key  string
		want []string
	}{
		{"a", []string{"a", "x", "b", "1", "d", "2", "f", "3"}}, {"b", []string{"b", "x", "d", "2", "f", "3"}}, {"c", []string{"b", "1", "c", "x", "d", "2", "f", "3"}},
		{"d", []string{"b", "1", "d", "x", "f", "3"}}, {"e", []string{"b", "1", "d", "2", "e", "x", "f", "3"}}, {"f", []string{"b", "1", "d", "2", "f", "x"}}, {"g", []string{"b", "1", "d", "2", "f", "3", "g", "x"}},
	} {
		comesBehind(t, first,
			deeds(put(3, x.key, "x"), scanAll(4), lookUp(4, x.key), scanAll(3), put(0, x.key, "y"), scanAll(5), scanAll(4)),
			made(4), having(x.want...), valued("x"), having("b", "1", "d", "2", "f", "3"), made(5), having(x.key, "y"), having(x.want...))
	}
	// Of an older version none of the later ones is to be seen.
	comesBehind(t, first, deeds(put(1, "a", ""), put(1, "c", "4"), put(2, "b", "5"), scanAll(4), scanAll(5), scanAll(6), scanAll(1), scanAll(2)),
		made(4), made(5), made(6), having("a", "", "b", "1"), having("b", "1", "c", "4"), having("b", "5", "d", "2"), having("b", "1"), having("b", "1", "d", "2"))
}

// P13.1: each of many keys is put anew, or beside, where there are several leaves.
func TestPutPlacesOfMany(t *testing.T) {
	for _, n := range []int{1, 2, 4, 5, 6, 9, 17, 40} {
		keys := counted(n)
		for _, key := range append(keys, "", "0", "~", keys[n/2]+"x", keys[0]+"x", keys[n-1]+"x", keys[0][:2]) {
			l := append(inRow(keys...), put(n, key, "new"), scanAll(n+1), lookUp(n+1, key), scanAll(n), lookUp(n, key))
			want, _ := wanted(l)
			plays(t, l, want...)
		}
	}
}

// P13.1
func TestDrop(t *testing.T) {
	first := deeds(put(0, "b", "1"), put(1, "d", "2"), put(2, "f", ""))
	comesBehind(t, first,
		deeds(drop(3, "b"), drop(3, "d"), drop(3, "f"), drop(1, "b"), scanAll(4), scanAll(5), scanAll(6), scanAll(7), scanAll(3), scanAll(1)),
		made(4), made(5), made(6), made(7), having("d", "2", "f", ""), having("b", "1", "f", ""), having("b", "1", "d", "2"), having(), having("b", "1", "d", "2", "f", ""), having("b", "1"))
	for _, key := range []string{"", "a", "c", "e", "g", "bb", "B", "b\x00", "\xff"} {
		comesBehind(t, first, deeds(drop(3, key), drop(0, key), put(3, "h", "")), coded(api.ErrNone), coded(api.ErrNone), made(4))
	}
	comesBehind(t, first, deeds(drop(2, "f"), drop(3, "f"), drop(4, "f"), put(4, "f", "4"), drop(5, "f"), scanAll(6)), coded(api.ErrNone), made(4), coded(api.ErrNone), made(5), made(6), having("b", "1", "d", "2"))
}

// P13.1: keys are dropped one by one, in several orders, until nothing is left.
func TestDropAll(t *testing.T) {
	random := rand.New(rand.NewSource(13))
	for _, n := range []int{1, 2, 3, 4, 5, 6, 9, 17, 40, 90} {
		keys := counted(n)
		back := slices.Clone(keys)
		slices.Reverse(back)
		for _, order := range [][]string{keys, back, shuffled(random, keys), shuffled(random, keys)} {
			l := inRow(shuffled(random, keys)...)
			for i, key := range order {
				l = append(l, drop(n+i, key), scanAll(n+i+1), lookUp(n+i+1, key))
			}
			l = append(l, put(2*n, "again", "x"), scanAll(2*n+1), scanAll(n))
			want, f := wanted(l)
			if len(f[2*n]) != 0 || len(f[n]) != n {
				t.Fatalf("%d keys: %s", n, brief(f))
			}
			plays(t, l, want...)
		}
	}
}

// P13.1
func TestLook(t *testing.T) {
	comesBehind(t, deeds(put(0, "a", "1"), put(1, "b", ""), put(2, "a\x00", "\x00"), put(3, "\xff", "\xff\x80")),
		deeds(lookUp(4, "a"), lookUp(4, "b"), lookUp(4, "a\x00"), lookUp(4, "\xff"), lookUp(4, ""), lookUp(4, "a\x00\x00"), lookUp(4, "\xff\xff"), lookUp(4, "\x00"), lookUp(3, "\xff"), lookUp(0, "a"), lookUp(0, "")),
		valued("1"), valued(""), valued("\x00"), valued("\xff\x80"), coded(api.ErrNone), coded(api.ErrNone), coded(api.ErrNone), coded(api.ErrNone), coded(api.ErrNone), coded(api.ErrNone), coded(api.ErrNone))
	for _, n := range []int{1, 4, 5, 17, 190} {
		l := inRow(shuffled(rand.New(rand.NewSource(13)), counted(n))...)
		for _, key := range counted(n) {
			l = append(l, lookUp(n, key))
		}
		l = append(l, lookUp(n, ""), lookUp(n, "~"), lookUp(n, "00"), lookUp(n, "000x"))
		want, _ := wanted(l)
		plays(t, l, want...)
	}
}

// P13.1: of a version without entries there is nothing to be scanned.
func TestScanOfNone(t *testing.T) {
	for _, limit := range []int{0, 1, 9, math.MaxInt64} {
		plays(t, deeds(scanFrom(0, "", "", limit), scanFrom(0, "a", "", limit), scanFrom(0, "", "b", limit), scanFrom(0, "a", "b", limit)), having(), having(), having(), having())
		comesBehind(t, deeds(put(0, "a", "1"), drop(1, "a")), deeds(scanFrom(2, "", "", limit), scanFrom(2, "a", "b", limit)), having(), having())
	}
}

// P13.1: from where on, ahead of what, and how many.
func TestScan(t *testing.T) {
	first := deeds(put(0, "f", "3"), put(1, "b", "1"), put(2, "d", "2"))
	all := []string{"b", "1", "d", "2", "f", "3"}
	for _, x := range []struct {
		low, high string
		limit     int
		want      []string
	}{
		{"", "", 9, all}, {"a", "", 9, all}, {"b", "", 9, all}, {"b\x00", "", 9, all[2:]}, {"c", "", 9, all[2:]}, {"d", "", 9, all[2:]}, {"e", "", 9, all[4:]}, {"f", "", 9, all[4:]}, {"g", "", 9, nil}, {"f\x00", "", 9, nil},
		{"", "a", 9, nil}, {"", "b", 9, nil}, {"", "b\x00", 9, all[:2]}, {"", "c", 9, all[:2]}, {"", "d", 9, all[:2]}, {"", "e", 9, all[:4]}, {"", "f", 9, all[:4]}, {"", "f\x00", 9, all}, {"", "g", 9, all}, {"", "\xff", 9, all},
		{"b", "b", 9, nil}, {"b", "a", 9, nil}, {"c", "b", 9, nil}, {"f", "b", 9, nil}, {"d", "d", 9, nil}, {"b", "d", 9, all[:2]}, {"b", "f", 9, all[:4]}, {"c", "e", 9, all[2:4]}, {"d", "e", 9, all[2:4]}, {"c", "d", 9, nil}, {"a", "g", 9, all}, {"d", "d\x00", 9, all[2:4]},
		{"", "", 0, nil}, {"", "", 1, all[:2]}, {"", "", 2, all[:4]}, {"", "", 3, all}, {"", "", 4, all}, {"", "", math.MaxInt64, all},
		{"c", "", 0, nil}, {"c", "", 1, all[2:4]}, {"c", "", 2, all[2:]}, {"c", "", 3, all[2:]}, {"b", "f", 1, all[:2]}, {"b", "f", 2, all[:4]}, {"b", "f", 3, all[:4]}, {"f", "b", 1, nil}, {"g", "", 1, nil},
	} {
		comesBehind(t, first, deeds(scanFrom(3, x.low, x.high, x.limit)), having(x.want...))
		for _, limit := range []int{-1, -2, math.MinInt64} {
			comesBehind(t, first, deeds(scanFrom(3, x.low, x.high, limit), scanFrom(0, x.low, x.high, limit)), coded(api.ErrRange), coded(api.ErrRange))
		}
	}
}

// P13.1: of many entries, each pair of ends.
func TestScanOfMany(t *testing.T) {
	for _, n := range []int{4, 5, 11, 30} {
		first := inRow(shuffled(rand.New(rand.NewSource(13)), counted(n))...)
		ends := []string{"", "~"}
		for i, key := range counted(n) {
			ends = append(ends, key)
			if i%5 == 0 {
				ends = append(ends, key+"x", key[:2])
			}
		}
		var scans []api.Deed
		for i, low := range ends {
			for j, high := range ends {
				scans = append(scans, scanFrom(n, low, high, []int{api.MaxPlay, n, n / 2, 3}[(i+j)%4]))
			}
		}
		for l := range slices.Chunk(scans, api.MaxPlay-n) {
			l = append(slices.Clone(first), l...)
			want, _ := wanted(l)
			plays(t, l, want...)
		}
	}
}

// P13.1: keys one of which begins with the other, and bytes from 128 on.
func TestKeysByBytes(t *testing.T) {
	keys := []string{"\x00", "\x00\x00", "\x00\xff", "\x01", "A", "a", "a\x00", "a\x00a", "aa", "aaa", "ab", "b", "\x7f", "\x7f\xff", "\x80", "\x80\x00", "\x81", "é", "\xfe\xff", "\xff", "\xff\x00", "\xff\xff", "\xff\xff\xff"}
	var all []string
	for i, key := range keys {
		all = append(all, key, fmt.Sprint(i))
	}
	random := rand.New(rand.NewSource(13))
	for range 20 {
		var l []api.Deed
		for i, place := range random.Perm(len(keys)) {
			l = append(l, put(i, keys[place], fmt.Sprint(place)))
		}
		n := len(keys)
		comesBehind(t, l, deeds(scanAll(n)), having(all...))
		for i, key := range keys {
			comesBehind(t, l,
				deeds(lookUp(n, key), scanFrom(n, key, "", 99), scanFrom(n, "", key, 99), scanFrom(n, key, key+"\x00", 99), drop(n, key), scanAll(n+1)),
				valued(fmt.Sprint(i)), having(all[2*i:]...), having(all[:2*i]...), having(all[2*i:2*i+2]...), made(n+1), having(slices.Concat(all[:2*i], all[2*i+2:])...))
		}
	}
}

// someDeed: most deeds are not refused, where there are so many versions.
func someDeed(random *rand.Rand, versions, keys int) api.Deed {
	version := versions - 1
	switch random.Intn(12) {
	case 0:
		version = versions
	case 1, 2, 3:
		version = random.Intn(versions)
	}
	key := fmt.Sprint(random.Intn(keys))
	switch random.Intn(12) {
	case 0:
		return lookUp(version, key)
	case 1:
		return scanFrom(version, key, "", random.Intn(9)-1)
	case 2:
		return scanFrom(version, key, fmt.Sprint(random.Intn(keys)), random.Intn(99))
	case 3:
		return api.Deed{Kind: random.Intn(7) - 1, Version: version, Key: []byte(key)}
	case 4, 5, 6, 7:
		return drop(version, key)
	}
	return put(version, key, fmt.Sprint(random.Intn(1000)))
}

// someDeeds: so many, of so many keys.
func someDeeds(random *rand.Rand, n, keys int) []api.Deed {
	var l []api.Deed
	f := fixed{nil}
	for range n {
		d := someDeed(random, len(f), keys)
		f.wanted(d)
		l = append(l, d)
	}
	return l
}

// P13.1: deeds of all kinds, in any order.
func TestPlayOfMany(t *testing.T) {
	random := rand.New(rand.NewSource(13))
	for i := range 60 {
		l := someDeeds(random, random.Intn(api.MaxPlay+1), []int{2, 6, 20, 200}[i%4])
		want, _ := wanted(l)
		checkPlay(t, l, want, api.OK)
	}
}

// P13.1: no version ever changes: each one, behind all deeds, is as it was when it was made.
func TestVersionsStay(t *testing.T) {
	random := rand.New(rand.NewSource(13))
	for i := range 30 {
		// Each deed may make a version, that is scanned behind it, and again behind all of them.
		l, f := []api.Deed(nil), fixed{nil}
		for range 130 {
			d := someDeed(random, len(f), []int{3, 12, 60}[i%3])
			l = append(l, d)
			if found := f.wanted(d); found.Version > 0 {
				l = append(l, scanAll(found.Version))
			}
		}
		var first []api.Found
		got, code := Play(l)
		for j, d := range l {
			if code == api.OK && j > 0 && got[j-1].Version > 0 && d.Kind == api.Scan {
				first = append(first, got[j])
			}
		}
		if len(first) != len(f)-1 {
			t.Fatalf("Play(%s): %d, and %d versions, want %d", brief(l), code, len(first), len(f)-1)
		}
		for version := range f {
			l = append(l, scanAll(version))
		}
		got, _ = Play(l)
		if last := got[len(got)-len(f):]; len(last[0].Entries) > 0 || !sameFounds(last[1:], first) {
			t.Errorf("behind all of %s: %s; they were %s", brief(l), brief(last), brief(first))
		}
		want, _ := wanted(l)
		checkPlay(t, l, want, api.OK)
	}
}

// Lists that are handed in may share memory with each other; what comes out does not.
func TestDeedsThatShare(t *testing.T) {
	b := []byte("abcdefgh")
	l := deeds(
		api.Deed{Kind: api.Put, Key: b, Value: b}, api.Deed{Kind: api.Put, Version: 1, Key: b[:3], Value: b[1:]}, api.Deed{Kind: api.Put, Version: 2, Key: b[2:4], Value: b[:0]},
		api.Deed{Kind: api.Put, Version: 3, Key: b[2:4], Value: b[7:]}, api.Deed{Kind: api.Drop, Version: 3, Key: b[:3], Value: b},
		api.Deed{Kind: api.Look, Version: 1, Key: b, Value: b}, api.Deed{Kind: api.Look, Version: 1, Key: b, Value: b}, api.Deed{Kind: api.Look, Version: 3, Key: b[2:4]},
		api.Deed{Kind: api.Scan, Version: 4, Key: b[:0], Value: b[:0], Limit: 9}, api.Deed{Kind: api.Scan, Version: 4, Key: b[:1], Value: b[2:3], Limit: 9}, api.Deed{Kind: api.Scan, Version: 5, Limit: 9},
	)
	plays(t, l,
		made(1), made(2), made(3), made(4), made(5), valued("abcdefgh"), valued("abcdefgh"), valued(""),
		having("abc", "bcdefgh", "abcdefgh", "abcdefgh", "cd", "h"), having("abc", "bcdefgh", "abcdefgh", "abcdefgh"), having("abcdefgh", "abcdefgh", "cd", ""))
}

// What is answered hangs on nothing that is kept: what was handed in may change behind the call.
func TestNothingIsKept(t *testing.T) {
	l := append(inRow(counted(30)...), scanAll(30), lookUp(30, "007"))
	got, _ := Play(l)
	nodes, _ := Nodes(l, 30)
	kept, keptNodes := toldOf(got), toldOf(nodes)
	for i := range l {
		for j := range l[i].Key {
			l[i].Key[j] = 'x'
		}
		for j := range l[i].Value {
			l[i].Value[j] = 'y'
		}
	}
	if toldOf(got) != kept || toldOf(nodes) != keptNodes {
		t.Error("what was answered changes with what was handed in")
	}
	plays(t, deeds(scanAll(0), scanAll(1)), having(), coded(api.ErrRange))
}
