package unit

import (
	"bytes"
	"fmt"
	"math/rand"
	"slices"
	"strings"
	"testing"

	"commonhold/api"
	"commonhold/frame"
)

func store(addr int, text string) api.Job {
	return api.Job{Kind: api.Store, Addr: addr, Data: []byte(text)}
}

func fetch(addr int) api.Job { return api.Job{Kind: api.Fetch, Addr: addr} }

func fill(addr int) api.Job { return api.Job{Kind: api.Fill, Addr: addr} }

func trim(addr int) api.Job { return api.Job{Kind: api.Trim, Addr: addr} }

func seal(epoch int) api.Job { return api.Job{Kind: api.Seal, Epoch: epoch} }

func crash(size int) api.Job { return api.Job{Kind: api.Crash, Addr: size} }

func jobs(l ...api.Job) []api.Job { return l }

// in: jobs that come from an epoch.
func in(epoch int, l ...api.Job) []api.Job {
	for i := range l {
		l[i].Epoch = epoch
	}
	return l
}

// atSlots: a job of each kind that is of a slot, all at one address.
func atSlots(addr int) []api.Job {
	return jobs(store(addr, "new"), fetch(addr), fill(addr), trim(addr))
}

func done() api.Reply { return api.Reply{} }

func coded(code api.Errno) api.Reply { return api.Reply{Code: code} }

func having(text string) api.Reply { return api.Reply{Data: []byte(text)} }

func isJunk() api.Reply { return api.Reply{Junk: true} }

func written(text string) api.Reply { return api.Reply{Code: api.ErrWritten, Data: []byte(text)} }

func writtenJunk() api.Reply { return api.Reply{Code: api.ErrWritten, Junk: true} }

func tailed(n int) api.Reply { return api.Reply{Tail: n} }

func replies(l ...api.Reply) []api.Reply { return l }

// long: a text of so many bytes.
func long(n int) string { return strings.Repeat("d", n) }

// model: a unit by the words of P19.1 to P19.4, with frames that are put down as bytes, and opened again.
type model struct {
	epoch int
	has   map[int]string // "data", "junk", "trimmed"; "": unwritten
	disk  map[int][]byte
}

// told: what a slot has, beside a code.
func (m *model) told(addr int, code api.Errno) api.Reply {
	r := api.Reply{Code: code, Junk: m.has[addr] == "junk"}
	if m.has[addr] == "data" {
		body, size, opened := frame.Open(m.disk[addr])
		if opened != api.OK || size != len(m.disk[addr]) {
			panic("a frame that does not open")
		}
		r.Data = body
	}
	return r
}

// refused: the first thing of those in the order of P19.3 for which a job at a slot is refused.
func (m *model) refused(j api.Job) (api.Errno, bool) {
	has := m.has[j.Addr]
	writes := j.Kind == api.Store || j.Kind == api.Fill
	for _, x := range []struct {
		so   bool
		code api.Errno
	}{
		{j.Epoch != m.epoch, api.ErrSealed},
		{j.Addr < 0 || j.Addr > 63, api.ErrRange},
		{j.Kind == api.Store && len(j.Data) > 4000, api.ErrSize},
		{j.Kind == api.Fetch && has == "", api.ErrUnwritten},
		{(j.Kind == api.Fetch || writes) && has == "trimmed", api.ErrTrimmed},
		{writes && (has == "data" || has == "junk"), api.ErrWritten},
	} {
		if x.so {
			return x.code, true
		}
	}
	return api.OK, false
}

func (m *model) atSlot(j api.Job) api.Reply {
	code, refused := m.refused(j)
	switch {
	case code == api.ErrWritten || j.Kind == api.Fetch && !refused:
		return m.told(j.Addr, code)
	case refused:
		return api.Reply{Code: code}
	}
	m.has[j.Addr] = map[int]string{api.Store: "data", api.Fill: "junk", api.Trim: "trimmed"}[j.Kind]
	if j.Kind == api.Store {
		m.disk[j.Addr], _ = frame.Seal(j.Data)
	}
	return api.Reply{}
}

func (m *model) seal(epoch int) api.Reply {
	switch {
	case epoch <= m.epoch:
		return api.Reply{Code: api.ErrSealed}
	case epoch > 1000000:
		return api.Reply{Code: api.ErrRange}
	}
	m.epoch = epoch
	r := api.Reply{}
	for addr := range 64 {
		if m.has[addr] != "" {
			r.Tail = addr + 1
		}
	}
	return r
}

// crash: the unit stops, with only so many bytes of what was put down at an address; what is there is opened anew.
func (m *model) crash(addr, size int) {
	m.disk[addr] = m.disk[addr][:min(max(size, 0), len(m.disk[addr]))]
	if _, _, code := frame.Open(m.disk[addr]); code != api.OK {
		delete(m.has, addr)
		delete(m.disk, addr)
	}
}

// modelPlay: the words of the chapter, of jobs that are not too many.
func modelPlay(l []api.Job) []api.Reply {
	m := &model{has: map[int]string{}, disk: map[int][]byte{}}
	var told []api.Reply
	for i, j := range l {
		switch j.Kind {
		case api.Store, api.Fetch, api.Fill, api.Trim:
			told = append(told, m.atSlot(j))
		case api.Seal:
			told = append(told, m.seal(j.Epoch))
		case api.Crash:
			if i > 0 && l[i-1].Kind == api.Store && told[i-1].Code == api.OK {
				m.crash(l[i-1].Addr, j.Addr)
			}
			told = append(told, api.Reply{})
		default:
			told = append(told, api.Reply{Code: api.ErrKind})
		}
	}
	return told
}

func sameReply(a, b api.Reply) bool {
	return a.Code == b.Code && a.Junk == b.Junk && bytes.Equal(a.Data, b.Data) && a.Tail == b.Tail
}

// brief: a thing as a text that is not too long to be told.
func brief(x any) string {
	s := fmt.Sprint(x)
	return s[:min(len(s), 1500)]
}

// checkPlay: that jobs come to what is wanted.
func checkPlay(t *testing.T, l []api.Job, want []api.Reply) {
	t.Helper()
	got, code := Play(l)
	if code != api.OK || len(got) != len(want) {
		t.Fatalf("Play(%s): %s, %d; want %s", brief(l), brief(got), code, brief(want))
	}
	for i := range want {
		if !sameReply(got[i], want[i]) {
			t.Fatalf("Play(%s): job %d, %s: %s; want %s", brief(l), i, brief(l[i]), brief(got[i]), brief(want[i]))
		}
	}
}

// plays: that jobs come to what is written out here, which is what the model has, too.
func plays(t *testing.T, l []api.Job, want ...api.Reply) {
	t.Helper()
	if m := modelPlay(l); !slices.EqualFunc(m, want, sameReply) {
		t.Fatalf("the model of %s: %s; want %s", brief(l), brief(m), brief(want))
	}
	checkPlay(t, l, want)
}

// comesBehind: that jobs come to that behind others.
func comesBehind(t *testing.T, first, l []api.Job, want ...api.Reply) {
	t.Helper()
	all := slices.Concat(first, l)
	plays(t, all, append(modelPlay(all)[:len(first)], want...)...)
}

// randomJob: one of a few addresses and epochs, so that jobs meet; now and then one that is odd.
func randomJob(random *rand.Rand, epoch int) api.Job {
	j := api.Job{Kind: 1 + random.Intn(6), Epoch: epoch, Addr: random.Intn(4)}
	if random.Intn(8) == 0 {
		j.Addr = []int{-1, 8, 9, 10, 11, 12, 62, 63, 64}[random.Intn(9)]
	}
	switch random.Intn(60) {
	case 0:
		j.Kind = []int{-1, 0, 7, 8}[random.Intn(4)]
	case 1, 2, 3:
		j.Epoch = epoch - 1 + 2*random.Intn(2)
	}
	switch j.Kind {
	case api.Store:
		j.Data = make([]byte, random.Intn(4))
		random.Read(j.Data)
		if random.Intn(40) == 0 {
			j.Data = make([]byte, api.MaxBody+random.Intn(2))
		}
	case api.Crash:
		j.Addr = random.Intn(14) - 1
	case api.Seal:
		j.Epoch = epoch - 1 + random.Intn(4)
	}
	return j
}

// randomJobs: so many, most of them from the unit's epoch.
func randomJobs(random *rand.Rand, n int) []api.Job {
	var l []api.Job
	epoch := 0
	for range n {
		j := randomJob(random, epoch)
		if j.Kind == api.Seal && random.Intn(4) > 0 {
			j.Kind = api.Crash
		}
		if j.Kind == api.Seal {
			epoch = max(epoch, j.Epoch)
		}
		l = append(l, j)
	}
	return l
}
