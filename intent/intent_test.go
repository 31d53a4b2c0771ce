package intent

import (
	"bytes"
	"encoding/binary"
	"fmt"
	"math/rand"
	"slices"
	"strings"
	"testing"

	"commonhold/api"
)

// read: a range from one text to another one.
func read(low, high string) api.Range { return api.Range{Low: []byte(low), High: []byte(high)} }

func reads(l ...api.Range) []api.Range { return l }

func set(key, value string) api.Write { return api.Write{Key: []byte(key), Value: []byte(value)} }

func drop(key string) api.Write { return api.Write{Key: []byte(key), Gone: true} }

func writes(l ...api.Write) []api.Write { return l }

// long: a text of so many bytes.
func long(n int) string { return strings.Repeat("k", n) }

// counted: so many writes whose keys ascend.
func counted(n int) []api.Write {
	var l []api.Write
	for i := range n {
		l = append(l, set(fmt.Sprintf("%04d", i), ""))
	}
	return l
}

// with: an intent that may be, with these reads and writes.
func with(r []api.Range, w []api.Write) api.Intent {
	return api.Intent{Client: 1, Number: 2, Base: 3, Reads: r, Writes: w}
}

// sizedOf: an intent that may be and that has so many bytes, 31 or more, within one write.
func sizedOf(n int) api.Intent {
	x := with(nil, writes(set("a", "")))
	x.Writes[0].Value = []byte(strings.Repeat("v", n-len(modelBytes(x))))
	return x
}

func number(b []byte, n int) []byte { return binary.LittleEndian.AppendUint32(b, uint32(n)) }

func text(b, t []byte) []byte { return append(number(b, len(t)), t...) }

// modelBytes: the bytes of an intent by the words of P17.2, whether or not it may be.
func modelBytes(x api.Intent) []byte {
	var b []byte
	for _, n := range []int{x.Client, x.Number, x.Base, len(x.Reads)} {
		b = number(b, n)
	}
	for _, r := range x.Reads {
		b = text(text(b, r.Low), r.High)
	}
	b = number(b, len(x.Writes))
	for _, w := range x.Writes {
		b = text(b, w.Key)
		if w.Gone {
			b = append(b, 1)
		} else {
			b = append(b, 0)
		}
		b = text(b, w.Value)
	}
	return b
}

// modelMay: P17.1, one word behind the other.
func modelMay(x api.Intent) bool {
	may := x.Client >= 1 && x.Client <= 1048576 && x.Number >= 1 && x.Number <= 1048576 && x.Base >= 0 && x.Base <= 1048576
	may = may && len(x.Reads) <= 400 && len(x.Writes) <= 400
	for _, r := range x.Reads {
		may = may && len(r.Low) <= 1201 && len(r.High) <= 1201
	}
	for _, w := range x.Writes {
		may = may && len(w.Key) >= 1 && len(w.Key) <= 1200 && len(w.Value) <= 4000 && !(w.Gone && len(w.Value) > 0)
	}
	for i := range x.Writes {
		may = may && (i == 0 || string(x.Writes[i-1].Key) < string(x.Writes[i].Key))
	}
	return may
}

func sameRange(a, b api.Range) bool {
	return bytes.Equal(a.Low, b.Low) && bytes.Equal(a.High, b.High)
}

func sameWrite(a, b api.Write) bool {
	return bytes.Equal(a.Key, b.Key) && bytes.Equal(a.Value, b.Value) && a.Gone == b.Gone
}

// same: whether two intents are, to the last field; lists without elements are all the same.
func same(a, b api.Intent) bool {
	return a.Client == b.Client && a.Number == b.Number && a.Base == b.Base && slices.EqualFunc(a.Reads, b.Reads, sameRange) && slices.EqualFunc(a.Writes, b.Writes, sameWrite)
}

func copied(x api.Intent) api.Intent {
	var r []api.Range
	for _, y := range x.Reads {
		r = append(r, read(string(y.Low), string(y.High)))
	}
	var w []api.Write
	for _, y := range x.Writes {
		w = append(w, api.Write{Key: []byte(string(y.Key)), Value: []byte(string(y.Value)), Gone: y.Gone})
	}
	x.Reads, x.Writes = r, w
	return x
}

// goodOnes: intents that may be, and have at most MaxBody bytes.
func goodOnes() []api.Intent {
	l := []api.Intent{
		{Client: 1, Number: 1},
		{Client: 1, Number: 1, Reads: reads(), Writes: writes()},
		{Client: api.MaxCount, Number: api.MaxCount, Base: api.MaxCount},
		{Client: 0x010203, Number: 0x0a0b0c, Base: 0x0fedcb},
		{Client: 255, Number: 256, Base: 65535, Reads: reads(read("a", "b"))},
		{Client: 65536, Number: 65537, Base: 257, Writes: writes(set("a", "b"))},
		with(reads(read("", "")), writes(drop("a"))),
		with(reads(read("b", "a"), read("b", "a"), read("", "\xff"), read("a", "a")), writes(set("a", ""), drop("b"), set("c", "see"), drop("cc"), set("\x7f", "1"), set("\x80", "2"), set("\xff", "3"))),
		with(reads(read(long(255), long(256)), read(long(257), "")), writes(set(long(255), long(256)), set(long(256), long(257)), drop(long(257)))),
		with(reads(read(long(api.MaxKey+1), long(api.MaxKey+1))), writes(set(long(api.MaxKey), ""))),
		with(make([]api.Range, api.MaxReads), nil),
		sizedOf(api.MaxBody - 1), sizedOf(api.MaxBody),
	}
	return append(l, with(nil, counted(300)), with(make([]api.Range, 10), counted(240)))
}

// badOnes: intents that may not be, each in one way, by what it is.
func badOnes() map[string]api.Intent {
	l := map[string]api.Intent{
		"Client 0":     {Number: 1},
		"Client over":  {Client: api.MaxCount + 1, Number: 1},
		"Number 0":     {Client: 1},
		"Number over":  {Client: 1, Number: api.MaxCount + 1},
		"Base over":    {Client: 1, Number: 1, Base: api.MaxCount + 1},
		"Client 2^31":  {Client: 1 << 31, Number: 1},
		"Number 2^31":  {Client: 1, Number: 1 << 31},
		"Base 2^32-1":  {Client: 1, Number: 1, Base: 1<<32 - 1},
		"many Reads":   with(make([]api.Range, api.MaxReads+1), nil),
		"Low over":     with(reads(read(long(api.MaxKey+2), "")), nil),
		"High over":    with(reads(read("", long(api.MaxKey+2))), nil),
		"last Low":     with(reads(read("", ""), read("a", "b"), read(long(api.MaxKey+2), "")), nil),
		"last High":    with(reads(read("", ""), read("a", "b"), read("", long(api.MaxKey+2))), nil),
		"Key empty":    with(nil, writes(set("", ""))),
		"Key Gone":     with(nil, writes(drop(""))),
		"Key behind":   with(nil, writes(set("a", ""), set("", ""))),
		"Key over":     with(nil, writes(set(long(api.MaxKey+1), ""))),
		"Key over two": with(nil, writes(set("a", ""), drop(long(api.MaxKey+1)))),
		"Gone Value":   with(nil, writes(api.Write{Key: []byte("a"), Value: []byte{0}, Gone: true})),
		"Gone Value 2": with(nil, writes(drop("a"), set("b", "c"), api.Write{Key: []byte("c"), Value: []byte("d"), Gone: true})),
	}
	for i, keys := range [][]string{{"b", "a"}, {"a", "a"}, {"a", "b", "a"}, {"a", "b", "b"}, {"a", "c", "b"}, {"aa", "a"}, {"a\x00", "a"}, {"\x80", "\x7f"}, {"\xff", "\x80"}, {"\xff", "\x7f"}, {"a\xff", "a\x7f"}, {"b", "aa"}} {
		var sets, drops []api.Write
		for _, k := range keys {
			sets = append(sets, set(k, "v"))
			drops = append(drops, drop(k))
		}
		l[fmt.Sprint("Keys ", i)] = with(nil, sets)
		l[fmt.Sprint("Keys Gone ", i)] = with(nil, drops)
	}
	l["Gone and not"] = with(nil, writes(drop("a"), set("a", "")))
	l["not and Gone"] = with(nil, writes(set("a", "v"), drop("a")))
	return l
}

// longOnes: intents that may not be and would have more than MaxBody bytes, too.
func longOnes() map[string]api.Intent {
	twice := with(nil, writes(set("a", long(2000)), set("a", long(2000))))
	zero := sizedOf(api.MaxBody + 1)
	zero.Client = 0
	gone := sizedOf(api.MaxBody + 1)
	gone.Writes[0].Gone = true
	return map[string]api.Intent{
		"many Writes": with(nil, counted(api.MaxWrites+1)),
		"Value over":  with(nil, writes(set("a", long(api.MaxBody+1)))),
		"Keys":        twice,
		"Client":      zero,
		"Gone":        gone,
	}
}

// randomText: of at most so many bytes, of a few that are easily the same.
func randomText(random *rand.Rand, most int) []byte {
	b := make([]byte, random.Intn(most+1))
	for i := range b {
		b[i] = []byte{0, 1, 127, 128, 255}[random.Intn(5)]
	}
	return b
}

// randomIntent: one that mostly may be.
func randomIntent(random *rand.Rand) api.Intent {
	x := api.Intent{Client: random.Intn(1 << 20), Number: random.Intn(1 << 20), Base: random.Intn(1 << 20)}
	for range random.Intn(5) {
		x.Reads = append(x.Reads, api.Range{Low: randomText(random, 4), High: randomText(random, 4)})
	}
	for range random.Intn(5) {
		x.Writes = append(x.Writes, api.Write{Key: randomText(random, 3), Value: randomText(random, 4)})
	}
	if random.Intn(4) > 0 {
		slices.SortFunc(x.Writes, func(a, b api.Write) int { return bytes.Compare(a.Key, b.Key) })
	}
	for i := range x.Writes {
		if random.Intn(3) == 0 {
			x.Writes[i].Gone = true
			x.Writes[i].Value = x.Writes[i].Value[:min(len(x.Writes[i].Value), random.Intn(20)/19)]
		}
	}
	return x
}

// The tests' own lists are what they say they are.
func TestLists(t *testing.T) {
	for i, x := range goodOnes() {
		if !modelMay(x) || len(modelBytes(x)) > api.MaxBody {
			t.Errorf("good %d: %v", i, x)
		}
	}
	for what, x := range badOnes() {
		if modelMay(x) || len(modelBytes(x)) > api.MaxBody {
			t.Errorf("bad %s: %v", what, x)
		}
	}
	for what, x := range longOnes() {
		if modelMay(x) || len(modelBytes(x)) <= api.MaxBody {
			t.Errorf("long %s: %v", what, x)
		}
	}
}
