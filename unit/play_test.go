package unit

import (
	"math"
	"math/rand"
	"slices"
	"testing"

	"commonhold/api"
)

// P19.1 to P19.4: some jobs, one by one.
func TestPlay(t *testing.T) {
	plays(t,
		jobs(fetch(0), store(0, "zero"), fetch(0), store(2, "two"), fill(1), fetch(1), fill(3), trim(2), fetch(2), seal(5)),
		coded(api.ErrUnwritten), done(), having("zero"), done(), done(), isJunk(), done(), done(), coded(api.ErrTrimmed), tailed(4))
	comesBehind(t, jobs(store(0, "zero"), fill(1), seal(5)),
		append(in(5, fetch(0), store(1, "one"), store(2, "two"), crash(9), store(2, "again"), fetch(2)), seal(6)),
		having("zero"), writtenJunk(), done(), done(), done(), having("again"), tailed(3))
	// What a unit has, no other one has.
	plays(t, jobs(fetch(0), fetch(2), seal(1)), coded(api.ErrUnwritten), coded(api.ErrUnwritten), tailed(0))
}

// P19.1: no jobs, MaxPlay of them, and more.
func TestPlaySize(t *testing.T) {
	plays(t, nil)
	plays(t, []api.Job{})
	for _, j := range jobs(store(0, "a"), store(0, long(api.MaxBody)), fetch(0), fill(0), trim(0), seal(1), crash(0), api.Job{}, api.Job{Kind: 7, Addr: -1}, fetch(-1)) {
		l := slices.Repeat(jobs(j), api.MaxPlay)
		plays(t, l, modelPlay(l)...)
		for _, more := range []int{1, 2, api.MaxPlay} {
			got, code := Play(append(slices.Clone(l), l[:more]...))
			if len(got) != 0 || code != api.ErrSize {
				t.Errorf("Play of %d jobs %s: %s, %d; want nothing, ErrSize", api.MaxPlay+more, brief(j), brief(got), code)
			}
		}
	}
	if got, code := Play(make([]api.Job, 1<<16)); len(got) != 0 || code != api.ErrSize {
		t.Errorf("Play of many jobs: %s, %d", brief(got), code)
	}
}

// P19.1: all slots that there are, and all at once.
func TestPlayAllSlots(t *testing.T) {
	var l, again []api.Job
	var first, wanted []api.Reply
	for addr := range api.MaxAddr {
		l, again = append(l, fetch(addr)), append(again, fetch(addr))
		first = append(first, coded(api.ErrUnwritten))
	}
	for addr := range api.MaxAddr {
		text := string(rune('A' + addr))
		l, first, wanted = append(l, store(addr, text)), append(first, done()), append(wanted, having(text))
	}
	plays(t, slices.Concat(l, again, jobs(seal(1))), slices.Concat(first, wanted, replies(tailed(api.MaxAddr)))...)
}

// oddNumbers: that are far from all limits, and next to 0.
func oddNumbers() []int {
	return []int{math.MinInt64, math.MinInt64 + 1, -1000001, -2, -1, 1000001, 1 << 31, 1 << 32, math.MaxInt64 - 7, math.MaxInt64 - 1, math.MaxInt64}
}

// P19.1: a Kind that is none, ahead of all else; it does nothing.
func TestPlayKinds(t *testing.T) {
	first := append(jobs(seal(3)), in(3, store(0, "a"), fill(1), trim(2))...)
	for _, kind := range append(oddNumbers(), 0, 7, 8, 9, 64) {
		for _, epoch := range append(oddNumbers(), 0, 2, 3, 4) {
			for _, addr := range []int{-1, 0, 1, 2, 3, 63, 64} {
				for _, b := range [][]byte{nil, []byte("b"), make([]byte, api.MaxBody+1)} {
					comesBehind(t, first,
						append(jobs(api.Job{Kind: kind, Epoch: epoch, Addr: addr, Data: b}), append(in(3, fetch(0), fetch(1), fetch(2), fetch(3)), seal(4))...),
						coded(api.ErrKind), having("a"), isJunk(), coded(api.ErrTrimmed), coded(api.ErrUnwritten), tailed(3))
				}
			}
		}
	}
}

// P19.1 to P19.4: all plays of five jobs of those that meet.
func TestPlayAll(t *testing.T) {
	choices := append(in(1, store(0, "x"), store(0, ""), store(1, "y"), fetch(0), fill(0), trim(0), trim(1)), seal(2), crash(0), crash(8), crash(9), store(0, "old"))
	first := jobs(seal(1))
	last := slices.Concat(in(1, fetch(0), fetch(1)), in(2, fetch(0), fetch(1)), jobs(seal(9)))
	n := len(choices)
	for number := range n * n * n * n * n {
		l := slices.Clone(first)
		for rest := number; len(l) < 6; rest /= n {
			l = append(l, choices[rest%n])
		}
		l = append(l, last...)
		checkPlay(t, l, modelPlay(l))
	}
}

// P19.1 to P19.4: plays of all that may come.
func TestPlayRandom(t *testing.T) {
	random := rand.New(rand.NewSource(191))
	codes := map[api.Errno]int{}
	for range 30000 {
		l := randomJobs(random, random.Intn(40))
		want := modelPlay(l)
		checkPlay(t, l, want)
		for _, r := range want {
			codes[r.Code]++
		}
	}
	for _, code := range []api.Errno{api.OK, api.ErrSize, api.ErrRange, api.ErrKind, api.ErrWritten, api.ErrTrimmed, api.ErrUnwritten, api.ErrSealed} {
		if codes[code] < 300 {
			t.Errorf("only %d jobs come to %d", codes[code], code)
		}
	}
	for range 300 {
		l := randomJobs(random, api.MaxPlay)
		checkPlay(t, l, modelPlay(l))
	}
}

// What comes of it: what was fetched once is fetched ever after, until it is trimmed.
func TestFetchedEverAfter(t *testing.T) {
	random := rand.New(rand.NewSource(192))
	again := 0
	for range 20000 {
		l := randomJobs(random, 60)
		got, _ := Play(l)
		fetched := map[int]api.Reply{}
		for i, j := range l {
			was, there := fetched[j.Addr]
			switch {
			case j.Kind == api.Trim && got[i].Code == api.OK:
				delete(fetched, j.Addr)
			case j.Kind == api.Fetch && there && got[i].Code != api.ErrSealed:
				again++
				if !sameReply(got[i], was) {
					t.Fatalf("Play(%s): job %d: %s; it was %s", brief(l), i, brief(got[i]), brief(was))
				}
			case j.Kind == api.Fetch && got[i].Code == api.OK:
				fetched[j.Addr] = got[i]
			}
		}
	}
	if again < 10000 {
		t.Errorf("only %d slots were fetched again", again)
	}
}
