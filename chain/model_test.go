package chain

import (
	"bytes"
	"fmt"
	"math"
	"math/rand"
	"slices"
	"testing"

	"commonhold/api"
)

func write(who int, data string) api.Act {
	return api.Act{Kind: api.Append, Who: who, Data: []byte(data)}
}

func read(who, pos int) api.Act { return api.Act{Kind: api.Read, Who: who, Addr: pos} }

func mend(who, pos int) api.Act { return api.Act{Kind: api.Mend, Who: who, Addr: pos} }

func step(who int) api.Act { return api.Act{Kind: api.Step, Who: who} }

func stop(who int) api.Act { return api.Act{Kind: api.Stop, Who: who} }

func renew() api.Act { return api.Act{Kind: api.Renew} }

func acts(l ...api.Act) []api.Act { return l }

func lines(l ...api.Line) []api.Line { return l }

func coded(code api.Errno) api.Line { return api.Line{Code: code} }

// units: a chain.
func units(l ...int) []int { return l }

// in: a layout of these chains, of an epoch.
func in(epoch int, chains ...[]int) api.Layout { return api.Layout{Epoch: epoch, Chains: chains} }

// one: a layout of one chain, of so many units.
func one(n int) api.Layout { return in(0, units(4, 0, 3)[:n]) }

// three: a layout of chains of one unit, of two and of three.
func three() api.Layout { return in(7, units(4), units(2, 0), units(5, 1, 3)) }

// layouts: of each number of chains, short ones and long ones, and of epochs at the edges.
func layouts() []api.Layout {
	return []api.Layout{
		one(1), one(2), one(3), three(),
		in(1, units(1, 0), units(2)),
		in(api.MaxEpoch-1, units(5, 4, 3), units(0, 1, 2)),
		in(api.MaxEpoch, units(3), units(1), units(0, 5, 2), units(4)),
		in(3, units(0), units(2), units(4), units(1, 3), units(5)),
		in(0, units(5), units(4), units(3), units(2), units(1), units(0)),
	}
}

// renewable: layouts in which there are more epochs than a test needs.
func renewable() []api.Layout {
	l := layouts()
	for i := range l {
		l[i].Epoch = min(l[i].Epoch, api.MaxEpoch-30)
	}
	return l
}

// refused: layouts that may not be.
func refused() []api.Layout {
	return []api.Layout{
		{}, in(0, [][]int{}...), in(-1, units(0)), in(api.MaxEpoch+1, units(0)), in(math.MinInt64, units(0)), in(math.MaxInt64, units(0)),
		in(0, nil), in(0, units()), in(0, units(0), units()), in(0, nil, units(0)),
		in(0, units(0, 1, 2, 3)), in(0, units(4), units(0, 1, 2, 3)),
		in(0, units(-1)), in(0, units(api.MaxUnits)), in(0, units(0, math.MaxInt64)), in(0, units(0), units(math.MinInt64)),
		in(0, units(1, 1)), in(0, units(0, 1), units(2, 0)), in(0, units(3), units(3)),
		in(0, units(0), units(1), units(2), units(3), units(4), units(5), units(6)),
		in(0, units(0), units(1), units(2), units(3), units(4), units(5), units(0)),
		in(0, units(0), units(1), units(2), units(3), units(4), units(5), nil),
	}
}

// odd: numbers that are far from all that there is.
func odd() []int {
	return []int{math.MinInt64, math.MinInt32, -api.MaxAddr, -2, -1, math.MaxInt32, 1 << 32, math.MaxInt64 - 1, math.MaxInt64}
}

// size: how many positions of a layout have a place.
func size(l api.Layout) int { return 64 * len(l.Chains) }

// length: how many units have a position.
func length(l api.Layout, pos int) int { return len(l.Chains[pos%len(l.Chains)]) }

// spot: a position's slot on one unit of its chain, the head being unit 0.
type spot struct{ pos, unit int }

// content: what a spot has.
type content struct {
	junk bool
	data string
}

// client: by the words of P22.2 and P22.3. It is at work as long as its work is not 0.
type client struct {
	work, pos, knows int
	// passed: with how many units of the chain it is done.
	passed int
	what   content
}

// model: a log and its clients by the words of P22.1 to P22.4. What is not in slots is unwritten.
type model struct {
	l              api.Layout
	epoch, counter int
	slots          map[spot]content
	clients        [4]client
}

func newModel(l api.Layout) *model {
	return &model{l: l, epoch: l.Epoch, slots: map[spot]content{}}
}

// take: a client gets the counter's position, if that has a place.
func (m *model) take(c *client) bool {
	if m.counter == size(m.l) {
		return false
	}
	c.pos, c.passed = m.counter, 0
	m.counter++
	return true
}

func (m *model) begin(c *client, a api.Act) api.Line {
	switch {
	case c.work != 0:
		return coded(api.ErrState)
	case a.Kind == api.Append && len(a.Data) > 4000:
		return coded(api.ErrSize)
	case a.Kind == api.Append && m.counter == size(m.l):
		return coded(api.ErrFull)
	case a.Kind != api.Append && (a.Addr < 0 || a.Addr >= size(m.l)):
		return coded(api.ErrRange)
	}
	*c = client{work: a.Kind, pos: a.Addr, knows: m.epoch}
	if a.Kind == api.Append {
		m.take(c)
		c.what.data = string(a.Data)
		return api.Line{Addr: c.pos}
	}
	return api.Line{}
}

// ended: what a client is told whose work has ended.
func (c *client) ended() api.Line {
	l := api.Line{Done: true, Addr: c.pos}
	if c.work != api.Append {
		l.Junk, l.Data = c.what.junk, []byte(c.what.data)
	}
	c.work = 0
	return l
}

// lost: an append at the head does not get its position.
func (m *model) lost(c *client) api.Line {
	if m.take(c) {
		return api.Line{}
	}
	c.work = 0
	return api.Line{Code: api.ErrFull, Done: true}
}

func (m *model) fetch(c *client) api.Line {
	has, there := m.slots[spot{c.pos, length(m.l, c.pos) - 1}]
	c.what = has
	l := c.ended()
	if !there {
		l.Code = api.ErrUnwritten
	}
	return l
}

func (m *model) step(c *client) api.Line {
	sealed := c.knows != m.epoch
	c.knows = m.epoch
	has, written := m.slots[spot{c.pos, c.passed}]
	switch {
	case c.work == 0:
		return coded(api.ErrState)
	case c.work == api.Append && c.passed == 0 && (sealed || written):
		return m.lost(c)
	case sealed:
		return api.Line{}
	case c.work == api.Read:
		return m.fetch(c)
	case c.work == api.Mend && c.passed == 0 && written:
		c.what = has
	case c.work == api.Mend && c.passed == 0:
		c.what.junk = true
	}
	if !written {
		m.slots[spot{c.pos, c.passed}] = c.what
	}
	c.passed++
	if c.passed == length(m.l, c.pos) {
		return c.ended()
	}
	return api.Line{}
}

// renew: the counter is behind each position whose chain has something at its head, there or behind.
func (m *model) renew() api.Line {
	if m.epoch == 1000000 {
		return coded(api.ErrOver)
	}
	m.epoch++
	m.counter = 0
	for s := range m.slots {
		if s.unit == 0 {
			m.counter = max(m.counter, s.pos+1)
		}
	}
	return api.Line{}
}

func (m *model) play(a api.Act) api.Line {
	switch {
	case a.Kind == api.Renew:
		return m.renew()
	case a.Kind < 1 || a.Kind > 6:
		return coded(api.ErrKind)
	case a.Who < 0 || a.Who >= 4:
		return coded(api.ErrRange)
	}
	c := &m.clients[a.Who]
	switch a.Kind {
	case api.Step:
		return m.step(c)
	case api.Stop:
		c.work = 0
		return api.Line{}
	}
	return m.begin(c, a)
}

// modelPlay: the words of the chapter, of a layout and acts that are not refused.
func modelPlay(l api.Layout, as []api.Act) []api.Line {
	m := newModel(l)
	var told []api.Line
	for _, a := range as {
		told = append(told, m.play(a))
	}
	return told
}

// brief: a thing as a text that is not too long to be told.
func brief(x any) string {
	s := fmt.Sprint(x)
	return s[:min(len(s), 1500)]
}

// same: whether two lines tell the same.
func same(a, b api.Line) bool {
	return a.Code == b.Code && a.Done == b.Done && a.Addr == b.Addr && a.Junk == b.Junk && bytes.Equal(a.Data, b.Data)
}

// checkPlay: that acts come to what is wanted.
func checkPlay(t *testing.T, l api.Layout, as []api.Act, want []api.Line) {
	t.Helper()
	got, code := Play(l, as)
	if code != api.OK || len(got) != len(want) {
		t.Fatalf("Play(%v, %s): %s, %d; want %s", l, brief(as), brief(got), code, brief(want))
	}
	for i := range want {
		if !same(got[i], want[i]) {
			t.Fatalf("Play(%v, %s): act %d, %s: %s; want %s", l, brief(as), i, brief(as[i]), brief(got[i]), brief(want[i]))
		}
	}
}

// checkModel: that acts come to what the model has.
func checkModel(t *testing.T, l api.Layout, as []api.Act) {
	t.Helper()
	checkPlay(t, l, as, modelPlay(l, as))
}

// plays: that acts come to what is written out here, which is what the model has, too.
func plays(t *testing.T, l api.Layout, as []api.Act, want ...api.Line) {
	t.Helper()
	if m := modelPlay(l, as); !slices.EqualFunc(m, want, same) {
		t.Fatalf("the model of %v, %s: %s; want %s", l, brief(as), brief(m), brief(want))
	}
	checkPlay(t, l, as, want)
}

// oddAct: one that is refused, or that has what nobody asks.
func oddAct(random *rand.Rand, l api.Layout) api.Act {
	who := random.Intn(6) - 1
	return []api.Act{
		{Kind: -1, Who: who}, {Kind: 0, Who: who}, {Kind: api.Renew + 1, Who: who}, write(-1, "x"), write(4, "x"), step(-1), step(4), stop(-1), stop(4),
		read(who, -1), read(who, size(l)), mend(who, -1), mend(who, size(l)), {Kind: api.Append, Who: who, Data: make([]byte, 4001)},
		{Kind: api.Step, Who: who, Addr: -1, Data: make([]byte, 4001)}, {Kind: api.Stop, Who: who, Addr: -1}, {Kind: api.Mend, Who: who, Addr: 1, Data: make([]byte, 4001)},
	}[random.Intn(17)]
}

// randomActs: so many of clients who mostly go on with their work, at positions near those that are given.
func randomActs(random *rand.Rand, l api.Layout, n int) []api.Act {
	m := newModel(l)
	var made []api.Act
	for len(made) < n {
		who := random.Intn(4)
		pos := max(0, m.counter-2+random.Intn(4))
		a := step(who)
		if m.clients[who].work == 0 {
			a = []api.Act{write(who, fmt.Sprint(len(made))), write(who, fmt.Sprint(len(made))), write(who, ""), read(who, pos), read(who, random.Intn(pos+1)), mend(who, pos), mend(who, random.Intn(pos+1))}[random.Intn(7)]
		}
		switch random.Intn(40) {
		case 0, 1:
			a = renew()
		case 2:
			a = stop(who)
		case 3:
			a = oddAct(random, l)
		case 4:
			a = mend(who, size(l)-1-random.Intn(3))
		}
		m.play(a)
		made = append(made, a)
	}
	return made
}

// The words of the chapter, as the tests take them, hold for its own numbers.
func TestModel(t *testing.T) {
	if limits := fmt.Sprint(api.MaxHands, api.MaxPlay, api.MaxBody, api.MaxAddr, api.MaxUnits, api.MaxChain, api.MaxEpoch); limits != "4 400 4000 64 6 3 1000000" {
		t.Errorf("limits %s", limits)
	}
	if n := fmt.Sprint(size(one(3)), size(three()), length(three(), 0), length(three(), 4), length(three(), 5), len(long(4001))); n != "64 192 1 2 3 4001" {
		t.Errorf("numbers %s", n)
	}
	if s := long(27); s != "0123456789abcdefghijklmno01" {
		t.Errorf("data %s", s)
	}
}
