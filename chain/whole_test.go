package chain

import (
	"math/rand"
	"testing"

	"commonhold/api"
)

// happened: an append that ended with its position, from the act it began with to the one it ended with.
type happened struct {
	from, to, pos int
	data          string
}

// appended: those of a play, by its acts and lines alone.
func appended(as []api.Act, told []api.Line) []happened {
	var found []happened
	var begun [4]int
	for i, a := range as {
		if told[i].Code == api.OK && a.Kind != api.Step && a.Kind != api.Renew {
			begun[a.Who] = i
		}
		if a.Kind != api.Step || !told[i].Done || told[i].Code != api.OK {
			continue
		}
		if from := begun[a.Who]; as[from].Kind == api.Append {
			found = append(found, happened{from, i, told[i].Addr, string(as[from].Data)})
		}
	}
	return found
}

// isHeard: whether a line tells what a position has.
func isHeard(as []api.Act, told []api.Line, i int) bool {
	if as[i].Kind != api.Step || !told[i].Done || told[i].Code != api.OK {
		return false
	}
	for from := i - 1; from >= 0; from-- {
		if a := as[from]; a.Who == as[i].Who && told[from].Code == api.OK && (a.Kind == api.Append || a.Kind == api.Read || a.Kind == api.Mend) {
			return a.Kind != api.Append
		}
	}
	return false
}

// closing: acts that mend each of these positions, at the end of a play.
func closing(l api.Layout, found []happened) []api.Act {
	made := acts(stop(0))
	for _, h := range found {
		made = append(made, mend(0, h.pos))
		for range length(l, h.pos) {
			made = append(made, step(0))
		}
	}
	return made
}

// What comes of it: a position has one content for all who read it; what was appended has a position of its own, behind all that was appended ahead of its beginning.
func TestWhole(t *testing.T) {
	random := rand.New(rand.NewSource(224))
	appends, heard := 0, 0
	for i := range 3000 {
		l := layouts()[i%9]
		as := randomActs(random, l, 150)
		told, _ := Play(l, as)
		found := appended(as, told)
		as = append(as, closing(l, found)...)
		told, code := Play(l, as)
		if code != api.OK {
			t.Fatalf("%d acts: %d", len(as), code)
		}
		has := map[int]api.Line{}
		for i, line := range told {
			if !isHeard(as, told, i) {
				continue
			}
			heard++
			if was, ok := has[line.Addr]; ok && !same(was, line) {
				t.Fatalf("Play(%v, %s): position %d has %s and %s", l, brief(as), line.Addr, brief(was), brief(line))
			}
			has[line.Addr] = line
		}
		for _, a := range found {
			appends++
			if got := has[a.pos]; got.Junk || string(got.Data) != a.data {
				t.Fatalf("Play(%v, %s): %q was appended at %d, which has %s", l, brief(as), a.data, a.pos, brief(got))
			}
			for _, b := range found {
				if a.from != b.from && a.pos == b.pos || a.to < b.from && a.pos > b.pos {
					t.Fatalf("Play(%v, %s): appends %v and %v", l, brief(as), a, b)
				}
			}
		}
	}
	if appends < 20000 || heard < 40000 {
		t.Errorf("%d appends, %d positions heard", appends, heard)
	}
}
