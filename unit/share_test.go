package unit

import (
	"bytes"
	"cmp"
	"fmt"
	"math/rand"
	"reflect"
	"slices"
	"testing"

	"commonhold/api"
)

// roomy: a copy with others behind it, in its spare room.
func roomy[T any](l []T, spare T) []T {
	kept := make([]T, len(l)+3)
	copy(kept, l)
	for i := len(l); i < len(kept); i++ {
		kept[i] = spare
	}
	return kept[:len(l)]
}

// roomyJobs: a copy whose lists share nothing, and have spare room.
func roomyJobs(l []api.Job) []api.Job {
	l = roomy(l, store(9, "spare"))
	for i, j := range l[:cap(l)] {
		l[:cap(l)][i].Data = roomy(j.Data, 1)
	}
	return l
}

// whole: jobs with all that their lists have, spare room too, as a text.
func whole(l []api.Job) string {
	var b bytes.Buffer
	fmt.Fprint(&b, len(l))
	for _, j := range l[:cap(l)] {
		fmt.Fprint(&b, j.Kind, j.Epoch, j.Addr, len(j.Data), j.Data[:cap(j.Data)])
	}
	return b.String()
}

// stretch: where the memory of a list begins and ends, its spare room counted.
type stretch struct{ low, high uintptr }

func stretchOf[T any](l []T) stretch {
	v := reflect.ValueOf(l)
	return stretch{v.Pointer(), v.Pointer() + uintptr(v.Cap())*v.Type().Elem().Size()}
}

func ofJobs(l []api.Job) []stretch {
	found := []stretch{stretchOf(l)}
	for _, j := range l[:cap(l)] {
		found = append(found, stretchOf(j.Data))
	}
	return found
}

func ofReplies(l []api.Reply) []stretch {
	found := []stretch{stretchOf(l)}
	for _, r := range l[:cap(l)] {
		found = append(found, stretchOf(r.Data))
	}
	return found
}

// sharing: whether two of these have memory in common. What has none stands nowhere.
func sharing(l ...[]stretch) bool {
	all := slices.DeleteFunc(slices.Concat(l...), func(s stretch) bool { return s.low == s.high })
	slices.SortFunc(all, func(a, b stretch) int { return cmp.Compare(a.low, b.low) })
	for i := 1; i < len(all); i++ {
		if all[i-1].high > all[i].low {
			return true
		}
	}
	return false
}

// The checks themselves find what they are there for.
func TestChecks(t *testing.T) {
	l, r := roomyJobs(jobs(store(0, "a"), store(1, "bc"))), replies(having("a"), having("bc"))
	if sharing(ofJobs(l), ofReplies(r)) {
		t.Error("memory is shared where none is")
	}
	for i, other := range [][]api.Reply{
		{{Data: l[0].Data}}, {{Data: l[1].Data[1:]}}, {{Data: l[1].Data[2:3]}}, {{Data: l[1].Data[:1]}}, {r[0]}, replies(done(), r[0])[:1], r[1:],
	} {
		if !sharing(ofJobs(l), ofReplies(r), ofReplies(other)) {
			t.Errorf("example %d shares memory", i)
		}
	}
	for i, change := range []func(){
		func() { l[0].Kind++ }, func() { l[0].Addr++ }, func() { l[1].Epoch++ }, func() { l[1].Data[1]++ }, func() { l[1].Data[:3][2]++ }, func() { l[:3][2].Addr++ }, func() { l[:5][4].Data[0]++ }, func() { l[0].Data = nil }, func() { l = l[:1] },
	} {
		was := whole(l)
		if change(); whole(l) == was {
			t.Errorf("change %d: all is as it was", i)
		}
	}
}

// checkShares: that a play leaves what was handed in as it was, and that its answers share nothing.
func checkShares(t *testing.T, l []api.Job) {
	t.Helper()
	l = roomyJobs(l)
	was := whole(l)
	first, _ := Play(l)
	again, _ := Play(l)
	if whole(l) != was {
		t.Fatalf("Play(%s): what was handed in is changed", brief(l))
	}
	if sharing(ofJobs(l), ofReplies(first), ofReplies(again)) {
		t.Fatalf("Play(%s): memory is shared", brief(l))
	}
}

// P19.1, P19.3: what is handed in stays as it is, and what comes out is new.
func TestShares(t *testing.T) {
	checkShares(t, nil)
	checkShares(t, make([]api.Job, api.MaxPlay+1))
	for _, body := range bodies() {
		// The same slot fetched twice, and what it has told of it twice more.
		checkShares(t, jobs(store(0, body), fetch(0), fetch(0), store(0, body), store(0, body), fill(0), fill(0), crash(0), fetch(0), trim(0), fetch(0), store(0, body)))
		checkShares(t, jobs(store(0, body), crash(8), store(0, body), crash(9), fetch(0), seal(1), fetch(0)))
	}
	random := rand.New(rand.NewSource(193))
	for range 3000 {
		checkShares(t, randomJobs(random, random.Intn(40)))
	}
}

// P19.3: one list that is stored twice comes out as two.
func TestSharesOneListTwice(t *testing.T) {
	b := roomy([]byte("both"), 1)
	l := jobs(api.Job{Kind: api.Store, Data: b}, api.Job{Kind: api.Store, Addr: 1, Data: b[1:]}, api.Job{Kind: api.Store, Addr: 2, Data: b}, fetch(0), fetch(1), fetch(2), fill(0), fill(1))
	got, _ := Play(l)
	if sharing(ofReplies(got), []stretch{stretchOf(b)}) {
		t.Error("memory is shared")
	}
	plays(t, l, done(), done(), done(), having("both"), having("oth"), having("both"), written("both"), written("oth"))
}

// spoil writes over all of a list's memory.
func spoil(b []byte) {
	b = b[:cap(b)]
	for i := range b {
		b[i] ^= 85
	}
}

// What was answered stays when what was handed in is written over, and the other way round.
func TestAnswersStay(t *testing.T) {
	for _, body := range bodies() {
		l := roomyJobs(jobs(store(0, body), fetch(0), fetch(0), store(0, "new"), fill(0)))
		want := modelPlay(l)
		first, _ := Play(l)
		for i := range first {
			if !sameReply(first[i], want[i]) {
				t.Errorf("job %d of %q: %s; want %s", i, brief(body), brief(first[i]), brief(want[i]))
			}
			spoil(first[i].Data)
		}
		clear(first[:cap(first)])
		again, _ := Play(l)
		for _, j := range l {
			spoil(j.Data)
		}
		clear(l[:cap(l)])
		if !slices.EqualFunc(again, want, sameReply) {
			t.Errorf("what was answered of %q is changed", brief(body))
		}
	}
}

// P19.1: jobs of a Unit one at a time, in a list that is written over behind each of them, come to what they come to in a play.
func TestUnitOneByOne(t *testing.T) {
	random := rand.New(rand.NewSource(194))
	for range 2000 {
		l := randomJobs(random, random.Intn(60))
		want, _ := Play(l)
		var u Unit
		for i, j := range l {
			j.Data = roomy(j.Data, 1)
			got := u.Do(j)
			if !sameReply(got, want[i]) {
				t.Fatalf("%s: job %d: %s; want %s", brief(l), i, brief(got), brief(want[i]))
			}
			spoil(j.Data)
			spoil(got.Data)
		}
	}
}
