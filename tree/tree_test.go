package tree

import (
	"bytes"
	"cmp"
	"fmt"
	"math/rand"
	"reflect"
	"slices"
	"strings"
	"testing"

	"commonhold/api"
)

func put(version int, key, value string) api.Deed {
	return api.Deed{Kind: api.Put, Version: version, Key: []byte(key), Value: []byte(value)}
}

func drop(version int, key string) api.Deed {
	return api.Deed{Kind: api.Drop, Version: version, Key: []byte(key)}
}

func lookUp(version int, key string) api.Deed {
	return api.Deed{Kind: api.Look, Version: version, Key: []byte(key)}
}

func scanFrom(version int, low, high string, limit int) api.Deed {
	return api.Deed{Kind: api.Scan, Version: version, Key: []byte(low), Value: []byte(high), Limit: limit}
}

// scanAll: all that a version has.
func scanAll(version int) api.Deed { return scanFrom(version, "", "", api.MaxPlay) }

func deeds(l ...api.Deed) []api.Deed { return l }

func made(version int) api.Found { return api.Found{Version: version} }

func valued(value string) api.Found { return api.Found{Value: []byte(value)} }

func coded(code api.Errno) api.Found { return api.Found{Code: code} }

// entries: of keys and values, one behind the other.
func entries(l ...string) []api.Entry {
	var made []api.Entry
	for i := 0; i < len(l); i += 2 {
		made = append(made, api.Entry{Key: []byte(l[i]), Value: []byte(l[i+1])})
	}
	return made
}

func having(l ...string) api.Found { return api.Found{Entries: entries(l...)} }

func founds(l ...api.Found) []api.Found { return l }

// inRow: puts of keys, each behind the one ahead, the first one of Version 0; the values are the keys' places.
func inRow(keys ...string) []api.Deed {
	var l []api.Deed
	for i, k := range keys {
		l = append(l, put(i, k, fmt.Sprint(i)))
	}
	return l
}

// counted: so many keys, in their order.
func counted(n int) []string {
	var l []string
	for i := range n {
		l = append(l, fmt.Sprintf("%03d", i))
	}
	return l
}

// shuffled: the same in another order.
func shuffled(random *rand.Rand, l []string) []string {
	l = slices.Clone(l)
	random.Shuffle(len(l), func(i, j int) { l[i], l[j] = l[j], l[i] })
	return l
}

// fixed: what deeds come to, told by lists of entries that are made anew for each version.
type fixed [][]api.Entry

// wanted: what each deed is to come to, and all versions.
func wanted(l []api.Deed) ([]api.Found, fixed) {
	f := fixed{nil}
	var want []api.Found
	for _, d := range l {
		want = append(want, f.wanted(d))
	}
	return want, f
}

func (f *fixed) wanted(d api.Deed) api.Found {
	if !slices.Contains([]int{api.Put, api.Drop, api.Look, api.Scan}, d.Kind) {
		return coded(api.ErrKind)
	}
	if d.Version < 0 || d.Version >= len(*f) {
		return coded(api.ErrRange)
	}
	var ahead, same, behind []api.Entry
	for _, e := range (*f)[d.Version] {
		switch n := strings.Compare(string(e.Key), string(d.Key)); {
		case n < 0:
			ahead = append(ahead, e)
		case n == 0:
			same = append(same, e)
		default:
			behind = append(behind, e)
		}
	}
	switch {
	case d.Kind == api.Put && (len(d.Key) < 1 || len(d.Key) > 1200 || len(d.Value) > 4000):
		return coded(api.ErrSize)
	case d.Kind == api.Put:
		same = []api.Entry{{Key: d.Key, Value: d.Value}}
		*f = append(*f, slices.Concat(ahead, same, behind))
		return made(len(*f) - 1)
	case d.Kind != api.Scan && len(same) == 0:
		return coded(api.ErrNone)
	case d.Kind == api.Drop:
		*f = append(*f, slices.Concat(ahead, behind))
		return made(len(*f) - 1)
	case d.Kind == api.Look:
		return api.Found{Value: same[0].Value}
	case d.Limit < 0:
		return coded(api.ErrRange)
	}
	l := slices.Concat(same, behind)
	if len(d.Value) > 0 {
		l = slices.DeleteFunc(l, func(e api.Entry) bool { return string(e.Key) >= string(d.Value) })
	}
	return api.Found{Entries: l[:min(d.Limit, len(l))]}
}

// brief: what is told of something, as a text that is not too long.
func brief(x any) string {
	text := fmt.Sprintf("%+v", x)
	if len(text) > 700 {
		return text[:700] + ".."
	}
	return text
}

// A list without elements may be nil or not.
func sameEntries(a, b []api.Entry) bool {
	return slices.EqualFunc(a, b, func(x, y api.Entry) bool { return bytes.Equal(x.Key, y.Key) && bytes.Equal(x.Value, y.Value) })
}

func sameFounds(a, b []api.Found) bool {
	return slices.EqualFunc(a, b, func(x, y api.Found) bool {
		return x.Code == y.Code && x.Version == y.Version && bytes.Equal(x.Value, y.Value) && sameEntries(x.Entries, y.Entries)
	})
}

// roomy: a copy of a list, with spare room behind it in which something stands.
func roomy[T any](l []T, spare T) []T {
	kept := make([]T, len(l)+3)
	copy(kept, l)
	for i := len(l); i < len(kept); i++ {
		kept[i] = spare
	}
	return kept[:len(l)]
}

// roomyDeeds: the same, all of whose lists share nothing, and have spare room.
func roomyDeeds(l []api.Deed) []api.Deed {
	l = roomy(l, put(0, "spare", "room"))
	for i, d := range l {
		l[i].Key, l[i].Value = roomy(d.Key, 'k'), roomy(d.Value, 'v')
	}
	return l
}

// told: all that can be reached from something, the spare room of its lists, too, as a text.
func told(v reflect.Value) string {
	var b strings.Builder
	switch v.Kind() {
	case reflect.Slice:
		if v.Type().Elem().Kind() == reflect.Uint8 {
			return fmt.Sprintf("[%d of %x]", v.Len(), v.Slice(0, v.Cap()).Bytes())
		}
		for i := range v.Cap() {
			fmt.Fprintf(&b, "%d: %s, ", i, told(v.Slice(0, v.Cap()).Index(i)))
		}
		return fmt.Sprintf("[%d of %s]", v.Len(), b.String())
	case reflect.Struct:
		for i := range v.NumField() {
			fmt.Fprintf(&b, "%s, ", told(v.Field(i)))
		}
		return "{" + b.String() + "}"
	}
	return fmt.Sprintf("%#v", v)
}

func toldOf(x any) string { return told(reflect.ValueOf(x)) }

// stretch: where the memory of a list begins and ends, its spare room counted.
type stretch struct{ low, high uintptr }

// stretches: those of all lists in something, by where they begin.
func stretches(x any) []stretch {
	var l []stretch
	var note func(v reflect.Value)
	note = func(v reflect.Value) {
		switch v.Kind() {
		case reflect.Slice:
			if v.Cap() > 0 {
				l = append(l, stretch{v.Pointer(), v.Pointer() + uintptr(v.Cap())*v.Type().Elem().Size()})
			}
			if v.Type().Elem().Kind() == reflect.Uint8 {
				return
			}
			for i := range v.Len() {
				note(v.Index(i))
			}
		case reflect.Struct:
			for i := range v.NumField() {
				note(v.Field(i))
			}
		}
	}
	note(reflect.ValueOf(x))
	slices.SortFunc(l, func(a, b stretch) int { return cmp.Compare(a.low, b.low) })
	return l
}

// sharing: whether two lists of something have memory in common.
func sharing(x any) bool {
	l := stretches(x)
	for i := 1; i < len(l); i++ {
		if l[i-1].high > l[i].low {
			return true
		}
	}
	return false
}

// sharingWith: whether an answer, no two lists of which share any, has memory in common with something, whose lists may.
func sharingWith(answer, other any) bool {
	mine := stretches(answer)
	return slices.ContainsFunc(stretches(other), func(s stretch) bool {
		// Of the lists of the answer that begin ahead of its end the last one is the last to end, too.
		n, _ := slices.BinarySearchFunc(mine, s.high, func(m stretch, high uintptr) int { return cmp.Compare(m.low, high) })
		return n > 0 && mine[n-1].high > s.low
	})
}

// The checks themselves find what they are there for.
func TestChecksFindSharing(t *testing.T) {
	b := []byte("abc")
	for i, x := range []any{
		[][]byte{b, b}, [][]byte{b[:1], b[1:]}, [][]byte{b[:0], b[2:]},
		[]api.Found{{Value: b}, {Entries: []api.Entry{{Key: b[1:]}}}}, []api.Entry{{Key: b, Value: b}}, []api.Node{{Keys: [][]byte{b}}, {Entries: []api.Entry{{Key: b}}}},
	} {
		if !sharing(x) || !sharingWith([][]byte{b[:1]}, x) {
			t.Errorf("example %d shares memory", i)
		}
	}
	if sharing([][]byte{b[:1:1], b[1:], nil, {}}) || sharing([]api.Entry{{Key: b, Value: slices.Clone(b)}}) || sharingWith([][]byte{b[:1:1]}, deeds(api.Deed{Key: b[1:]})) || sharingWith([][]byte{b}, deeds(put(0, "a", "b"))) {
		t.Error("sharing tells other things")
	}
	l := roomyDeeds(deeds(put(0, "a", "b"), scanAll(1)))
	for i, change := range []func(){
		func() { l[:3][2].Version++ }, func() { l[0].Key[0]++ }, func() { l[0].Key[:2][1]++ }, func() { l[1].Value[:1][0]++ }, func() { l[1].Limit++ }, func() { l[1].Kind++ },
	} {
		kept := toldOf(l)
		if change(); toldOf(l) == kept {
			t.Errorf("change %d: %s is as it was", i, kept)
		}
	}
}

func TestChecksFindOthers(t *testing.T) {
	if !sameFounds(founds(api.Found{}), founds(api.Found{Value: []byte{}, Entries: []api.Entry{}})) || !sameFounds(founds(having("a", "")), founds(api.Found{Entries: []api.Entry{{Key: []byte("a")}}})) {
		t.Error("a list without elements may be nil or not")
	}
	l := founds(made(1), made(0), coded(api.ErrNone), valued("a"), having("a", "b"), having("b", "b"), having("a", "c"), having("a", "b", "c", "d"))
	for i, x := range l {
		for j, y := range l {
			if sameFounds(founds(x), founds(y)) != (i == j) {
				t.Errorf("%s and %s", brief(x), brief(y))
			}
		}
	}
}

// checkPlay: what Play answers, with spare room and without; what was handed in stays, and nothing of it is shared.
func checkPlay(t *testing.T, l []api.Deed, want []api.Found, code api.Errno) {
	t.Helper()
	for _, x := range [][]api.Deed{l, roomyDeeds(l)} {
		kept := toldOf(x)
		got, e := Play(x)
		if e != code || !sameFounds(got, want) {
			t.Errorf("Play(%s): %s, %d; want %s, %d", brief(l), brief(got), e, brief(want), code)
			for i := range min(len(got), len(want)) {
				if !sameFounds(got[i:i+1], want[i:i+1]) {
					t.Errorf("deed %d, %s: %s; want %s", i, brief(l[i]), brief(got[i]), brief(want[i]))
				}
			}
		}
		if toldOf(x) != kept {
			t.Errorf("%s is now %s", brief(l), brief(x))
		}
		again, _ := Play(x)
		if sharing(got) || sharingWith(got, x) || sharingWith(got, again) {
			t.Errorf("Play(%s): %s shares memory", brief(l), brief(got))
		}
	}
}

// plays: what deeds come to, one by one.
func plays(t *testing.T, l []api.Deed, want ...api.Found) {
	t.Helper()
	checkPlay(t, l, want, api.OK)
	if other, _ := wanted(l); !sameFounds(want, other) {
		t.Errorf("%s: what is wanted is %s, or %s", brief(l), brief(want), brief(other))
	}
}

// comesBehind: what deeds come to behind others.
func comesBehind(t *testing.T, first, l []api.Deed, want ...api.Found) {
	t.Helper()
	ahead, _ := wanted(first)
	plays(t, slices.Concat(first, l), slices.Concat(ahead, want)...)
}
