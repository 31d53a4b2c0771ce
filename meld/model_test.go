package meld

import (
	"bytes"
	"encoding/binary"
	"math/rand"
	"slices"
	"strings"
	"testing"

	"commonhold/api"
	"commonhold/intent"
)

func cell(key, value string, since int) api.Cell {
	return api.Cell{Key: []byte(key), Value: []byte(value), Since: since}
}

func goneCell(key string, since int) api.Cell {
	return api.Cell{Key: []byte(key), Gone: true, Since: since}
}

func cells(l ...api.Cell) []api.Cell { return l }

func kept(client, number, at int) api.Done {
	return api.Done{Client: client, Number: number, At: at, Kept: true}
}

func refused(client, number, at int) api.Done {
	return api.Done{Client: client, Number: number, At: at}
}

func dones(l ...api.Done) []api.Done { return l }

func read(low, high string) api.Range { return api.Range{Low: []byte(low), High: []byte(high)} }

func reads(l ...api.Range) []api.Range { return l }

func put(key, value string) api.Write { return api.Write{Key: []byte(key), Value: []byte(value)} }

func drop(key string) api.Write { return api.Write{Key: []byte(key), Gone: true} }

func writes(l ...api.Write) []api.Write { return l }

// long: a text of so many bytes.
func long(n int) string { return strings.Repeat("k", n) }

func number(b []byte, n int) []byte { return binary.LittleEndian.AppendUint32(b, uint32(n)) }

func text(b, t []byte) []byte { return append(number(b, len(t)), t...) }

func flag(b []byte, so bool) []byte {
	if so {
		return append(b, 1)
	}
	return append(b, 0)
}

// intentBytes: the bytes of an intent by the words of P17.2, whether or not it may be.
func intentBytes(x api.Intent) []byte {
	b := number(number(number(number(nil, x.Client), x.Number), x.Base), len(x.Reads))
	for _, r := range x.Reads {
		b = text(text(b, r.Low), r.High)
	}
	b = number(b, len(x.Writes))
	for _, w := range x.Writes {
		b = text(flag(text(b, w.Key), w.Gone), w.Value)
	}
	return b
}

// logOf: the log that has these intents.
func logOf(l ...api.Intent) [][]byte {
	var log [][]byte
	for _, x := range l {
		log = append(log, intentBytes(x))
	}
	return log
}

// modelBytes: the bytes of a state by the words of P18.4, whether or not it may be.
func modelBytes(s api.State) []byte {
	b := number(number(nil, s.At), len(s.Cells))
	for _, c := range s.Cells {
		b = number(text(flag(text(b, c.Key), c.Gone), c.Value), c.Since)
	}
	b = number(b, len(s.Dones))
	for _, d := range s.Dones {
		b = flag(number(number(number(b, d.Client), d.Number), d.At), d.Kept)
	}
	return b
}

// modelMay: P18.1, one word behind the other.
func modelMay(s api.State) bool {
	may := s.At >= 0 && s.At <= 1048576
	for i, c := range s.Cells {
		may = may && len(c.Key) >= 1 && len(c.Key) <= 1200 && len(c.Value) <= 4000 && !(c.Gone && len(c.Value) > 0)
		may = may && c.Since >= 1 && c.Since <= s.At
		may = may && (i == 0 || string(s.Cells[i-1].Key) < string(c.Key))
	}
	for i, d := range s.Dones {
		may = may && d.Client >= 1 && d.Client <= 1048576 && d.Number >= 1 && d.Number <= 1048576 && d.At >= 1 && d.At <= s.At
		if i > 0 {
			e := s.Dones[i-1]
			may = may && (e.Client < d.Client || e.Client == d.Client && e.Number < d.Number)
		}
	}
	return may
}

// model: a state whose cells and Dones stand in no order.
type model struct {
	at    int
	cells map[string]api.Cell
	dones map[[2]int]api.Done
}

func modelOf(s api.State) *model {
	m := &model{at: s.At, cells: map[string]api.Cell{}, dones: map[[2]int]api.Done{}}
	for _, c := range s.Cells {
		m.cells[string(c.Key)] = c
	}
	for _, d := range s.Dones {
		m.dones[[2]int{d.Client, d.Number}] = d
	}
	return m
}

func (m *model) state() api.State {
	s := api.State{At: m.at}
	for _, c := range m.cells {
		s.Cells = append(s.Cells, c)
	}
	slices.SortFunc(s.Cells, func(a, b api.Cell) int { return strings.Compare(string(a.Key), string(b.Key)) })
	for _, d := range m.dones {
		s.Dones = append(s.Dones, d)
	}
	slices.SortFunc(s.Dones, func(a, b api.Done) int {
		if a.Client != b.Client {
			return a.Client - b.Client
		}
		return a.Number - b.Number
	})
	return s
}

// play: the words of P18.2, of one entry.
func (m *model) play(entry []byte) api.Errno {
	m.at++
	x, code := intent.Decode(entry)
	if code != api.OK {
		return api.ErrForm
	}
	id := [2]int{x.Client, x.Number}
	if _, there := m.dones[id]; there {
		return api.ErrTwice
	}
	code = api.OK
	for key, c := range m.cells {
		for _, r := range x.Reads {
			if c.Since > x.Base && key >= string(r.Low) && key < string(r.High) {
				code = api.ErrConflict
			}
		}
	}
	if x.Base >= m.at {
		code = api.ErrRange
	}
	if code == api.OK {
		for _, w := range x.Writes {
			m.cells[string(w.Key)] = api.Cell{Key: w.Key, Value: w.Value, Gone: w.Gone, Since: m.at}
		}
	}
	m.dones[id] = api.Done{Client: x.Client, Number: x.Number, At: m.at, Kept: code == api.OK}
	return code
}

// modelPlay: P18.2, of a log that is not refused.
func modelPlay(s api.State, l [][]byte) (api.State, []api.Errno) {
	m := modelOf(s)
	var codes []api.Errno
	for _, entry := range l {
		codes = append(codes, m.play(entry))
	}
	return m.state(), codes
}

func sameCell(a, b api.Cell) bool {
	return bytes.Equal(a.Key, b.Key) && bytes.Equal(a.Value, b.Value) && a.Gone == b.Gone && a.Since == b.Since
}

func sameEntry(a, b api.Entry) bool {
	return bytes.Equal(a.Key, b.Key) && bytes.Equal(a.Value, b.Value)
}

// same: whether two states are, to the last field; lists without elements are all the same.
func same(a, b api.State) bool {
	return a.At == b.At && slices.EqualFunc(a.Cells, b.Cells, sameCell) && slices.Equal(a.Dones, b.Dones)
}

// someState: a state that may be, with cells and Dones of several kinds.
func someState() api.State {
	return api.State{
		At: 9,
		Cells: cells(cell("a", "one", 1), goneCell("b", 4), cell("bb", "", 9), cell("c", "see", 5), goneCell("cc", 2),
			cell("\x7f", "1", 3), cell("\x80", "2", 6), cell("\xff", "\x00\xff", 7)),
		Dones: dones(kept(1, 1, 1), refused(1, 2, 3), kept(1, 9, 2), refused(2, 1, 9), kept(7, 3, 5), kept(300, 1, 8)),
	}
}

// goodOnes: states that may be.
func goodOnes() []api.State {
	return []api.State{
		{},
		{Cells: cells(), Dones: dones()},
		{At: 1},
		{At: api.MaxCount},
		{At: 1, Cells: cells(cell("a", "", 1))},
		{At: 1, Dones: dones(kept(1, 1, 1))},
		{At: 0x0a0b0c, Cells: cells(cell("a", "b", 0x010203)), Dones: dones(refused(0x040506, 0x070809, 0x0a0b0c))},
		{At: api.MaxCount, Cells: cells(cell(long(api.MaxKey), long(api.MaxBody), api.MaxCount)), Dones: dones(kept(api.MaxCount, api.MaxCount, api.MaxCount))},
		{At: 2, Cells: cells(goneCell("a", 2), goneCell("aa", 1), goneCell("ab", 2))},
		{At: 2, Dones: dones(kept(1, 5, 2), refused(1, 6, 2), kept(2, 1, 1), refused(2, 2, 2))},
		{At: 300, Cells: cells(cell(long(255), long(256), 255), cell(long(256), long(257), 256), cell(long(257), long(255), 257))},
		someState(),
		manyOf(300, 280),
	}
}

// manyOf: a state with so many cells and so many Dones.
func manyOf(c, d int) api.State {
	s := api.State{At: max(c, d)}
	for i := range c {
		s.Cells = append(s.Cells, api.Cell{Key: []byte{byte(i >> 8), byte(i)}, Value: []byte{byte(i)}, Since: c - i})
	}
	for i := range d {
		s.Dones = append(s.Dones, api.Done{Client: 1 + i/7, Number: 1 + i%7, At: d - i, Kept: i%3 == 0})
	}
	return s
}

// badOnes: states that may not be, each in one way, by what it is. All of their numbers have room in four bytes.
func badOnes() map[string]api.State {
	l := map[string]api.State{
		"At over":         {At: api.MaxCount + 1},
		"At 2^31":         {At: 1 << 31},
		"At 2^32-1":       {At: 1<<32 - 1},
		"Gone with Value": {At: 1, Cells: cells(api.Cell{Key: []byte("a"), Value: []byte("v"), Gone: true, Since: 1})},
		"Since in 0":      {Cells: cells(cell("a", "", 1))},
		"Done in 0":       {Dones: dones(kept(1, 1, 1))},
		"At over, full":   {At: api.MaxCount + 1, Cells: cells(cell("a", "", 1)), Dones: dones(kept(1, 1, 1))},
	}
	for what, x := range map[string]api.Cell{
		"Key empty": cell("", "v", 1), "Key over": cell(long(api.MaxKey+1), "v", 1), "Value over": cell("n", long(api.MaxBody+1), 1),
		"Since 0": cell("n", "v", 0), "Since above": cell("n", "v", 4), "Since 2^32-1": cell("n", "v", 1<<32-1), "Since 2^31": cell("n", "v", 1<<31),
	} {
		l[what] = api.State{At: 3, Cells: cells(x)}
		x.Gone = len(x.Value) == 0
		l[what+", last"] = api.State{At: 3, Cells: cells(cell("a", "", 3), cell("b", "", 2), x)}
		l[what+", first"] = api.State{At: 3, Cells: cells(x, cell("o", "", 3), cell("p", "", 2))}
	}
	for what, keys := range map[string][]string{
		"descend": {"b", "a"}, "same": {"a", "a"}, "begins so": {"ab", "a"}, "127": {"\x80", "\x7f"}, "255": {"\xff", "\x7f"}, "128": {"\xff", "\x80"},
		"last same": {"a", "b", "c", "c"}, "last descends": {"a", "b", "d", "c"}, "first same": {"a", "a", "b"}, "empty first": {"", "a"},
	} {
		s := api.State{At: 3}
		for i, k := range keys {
			s.Cells = append(s.Cells, cell(k, "v", 1+i%3))
		}
		l["Keys "+what] = s
		s.Cells = slices.Clone(s.Cells)
		s.Cells[0].Value, s.Cells[0].Gone = nil, true
		l["Keys, Gone "+what] = s
	}
	for what, x := range map[string]api.Done{
		"Client 0": kept(0, 1, 1), "Client over": kept(api.MaxCount+1, 1, 1), "Client 2^32-1": kept(1<<32-1, 1, 1),
		"Number 0": kept(5, 0, 1), "Number over": kept(5, api.MaxCount+1, 1), "Number 2^31": kept(5, 1<<31, 1),
		"Done 0": kept(5, 5, 0), "Done above": kept(5, 5, 4), "Done 2^31": kept(5, 5, 1<<31),
	} {
		l[what] = api.State{At: 3, Dones: dones(x)}
		x.Kept = false
		l[what+", last"] = api.State{At: 3, Dones: dones(kept(1, 1, 1), refused(4, 9, 3), x)}
		l[what+", first"] = api.State{At: 3, Dones: dones(x, kept(6, 1, 1), refused(7, 9, 3))}
	}
	for what, x := range map[string][]api.Done{
		"Clients descend": dones(kept(2, 1, 1), kept(1, 2, 2)), "Numbers descend": dones(kept(1, 2, 1), kept(1, 1, 2)), "same": dones(kept(1, 1, 1), kept(1, 1, 1)),
		"same, other At": dones(kept(1, 1, 1), refused(1, 1, 2)), "last same": dones(kept(1, 1, 1), kept(1, 2, 2), kept(1, 2, 3)), "last Client descends": dones(kept(1, 1, 1), kept(3, 1, 2), kept(2, 5, 3)),
	} {
		l["Dones "+what] = api.State{At: 3, Dones: x}
	}
	return l
}

// randomKey: one of few, so that keys meet.
func randomKey(random *rand.Rand) []byte {
	b := make([]byte, 1+random.Intn(2))
	for i := range b {
		b[i] = []byte{0, 'a', 'b', 127, 128, 255}[random.Intn(6)]
	}
	return b
}

func randomText(random *rand.Rand, most int) []byte {
	b := make([]byte, random.Intn(most+1))
	random.Read(b)
	return b
}

// randomState: one that may be, at a position of at least 1.
func randomState(random *rand.Rand) api.State {
	m := modelOf(api.State{At: 1 + random.Intn(12)})
	for range random.Intn(9) {
		c := api.Cell{Key: randomKey(random), Value: randomText(random, 3), Since: 1 + random.Intn(m.at)}
		if random.Intn(3) == 0 {
			c.Value, c.Gone = nil, true
		}
		m.cells[string(c.Key)] = c
	}
	for range random.Intn(7) {
		d := api.Done{Client: 1 + random.Intn(3), Number: 1 + random.Intn(4), At: 1 + random.Intn(m.at), Kept: random.Intn(2) == 0}
		m.dones[[2]int{d.Client, d.Number}] = d
	}
	return m.state()
}

// spoilt: a state with one thing changed, that often may not be.
func spoilt(random *rand.Rand, s api.State) api.State {
	s = roomyState(s)
	odd := []int{-1, 0, 1, 2, s.At, s.At + 1, s.At - 1, api.MaxCount, api.MaxCount + 1}[random.Intn(9)]
	i, j := random.Intn(len(s.Cells)+1), random.Intn(len(s.Dones)+1)
	switch kind := random.Intn(9); {
	case kind == 0:
		s.At = odd
	case kind < 5 && i < len(s.Cells):
		c := &s.Cells[i]
		[]func(){func() { c.Key = randomKey(random) }, func() { c.Key = nil }, func() { c.Gone = !c.Gone }, func() { c.Since = odd }}[kind-1]()
	case kind >= 5 && j < len(s.Dones):
		d := &s.Dones[j]
		[]func(){func() { d.Client = odd }, func() { d.Number = odd }, func() { d.At = odd }, func() { d.Kept = !d.Kept }}[kind-5]()
	}
	return s
}

// randomIntent: one that may be, of a transaction that begins around a position.
func randomIntent(random *rand.Rand, at int) api.Intent {
	x := api.Intent{Client: 1 + random.Intn(3), Number: 1 + random.Intn(6), Base: max(0, at-random.Intn(7)+1)}
	for range random.Intn(3) {
		r := api.Range{Low: randomKey(random), High: randomKey(random)}
		if random.Intn(3) == 0 {
			r.High = append(bytes.Clone(r.Low), 0)
		}
		x.Reads = append(x.Reads, r)
	}
	for range random.Intn(4) {
		w := api.Write{Key: randomKey(random), Value: randomText(random, 3)}
		if random.Intn(3) == 0 {
			w.Value, w.Gone = nil, true
		}
		x.Writes = append(x.Writes, w)
	}
	order := func(a, b api.Write) int { return bytes.Compare(a.Key, b.Key) }
	slices.SortFunc(x.Writes, order)
	x.Writes = slices.CompactFunc(x.Writes, func(a, b api.Write) bool { return order(a, b) == 0 })
	return x
}

// randomLog: entries from a position on, most of which are of intents.
func randomLog(random *rand.Rand, at, n int) [][]byte {
	var l [][]byte
	for i := range n {
		b := intentBytes(randomIntent(random, at+i))
		if random.Intn(8) == 0 {
			b = b[:random.Intn(len(b))]
		}
		l = append(l, b)
	}
	return l
}

// The tests' own lists are what they say they are.
func TestLists(t *testing.T) {
	for i, s := range goodOnes() {
		if !modelMay(s) {
			t.Errorf("good %d: %v", i, s)
		}
	}
	for what, s := range badOnes() {
		if modelMay(s) {
			t.Errorf("bad %s: %v", what, s)
		}
	}
	random := rand.New(rand.NewSource(18))
	for range 1000 {
		s := randomState(random)
		x := randomIntent(random, s.At)
		if b, code := intent.Encode(x); code != api.OK || !bytes.Equal(b, intentBytes(x)) || !modelMay(s) {
			t.Fatalf("%v, %v", s, x)
		}
	}
}
