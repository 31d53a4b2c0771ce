package ballot

import "commonhold/api"

// Kinds of letters: two that go to voters, each ahead of the one that goes back to a round.
const (
	asked = iota
	promised
	choose
	chosen
)

// vote: which value was chosen, and in which round. Round 0 stands for none, as no round has that number.
type vote struct {
	in    int
	value int
}

// letter: between a voter and a round. What a voter has chosen last goes with its promise, and what it shall choose with choose.
type letter struct {
	vote
	kind  int
	voter int
	round int
	lost  bool
}

// voter: its word is the greatest round that it heeds; it keeps what it has chosen last.
type voter struct {
	vote
	word int
}

// round: what became of it.
type round struct {
	// best: of what the promises have, that of the greatest round. The round's own value stands here from the first, as if of round 0, so that any other goes ahead of it.
	best     vote
	promised crowd
	chose    crowd
	stopped  bool
	told     bool
}

// crowd: some of the voters.
type crowd struct {
	in    [api.MaxVoters]bool
	count int
}

// add: the voter is one of them, once.
func (c *crowd) add(voter int) {
	if !c.in[voter] {
		c.in[voter] = true
		c.count++
	}
}

func (b *ballot) handAsked(l letter) {
	v := &b.voters[l.voter]
	if l.round <= v.word {
		return
	}
	v.word = l.round
	l.kind, l.vote = promised, v.vote
	b.send(l)
}

func (b *ballot) handPromised(l letter) {
	r := b.rounds[l.round]
	if r.stopped || r.told {
		return
	}
	r.promised.add(l.voter)
	if l.in > r.best.in {
		r.best = l.vote
	}
	if !b.most(r.promised) {
		return
	}
	r.told = true
	b.sendAll(letter{kind: choose, round: l.round, vote: vote{in: l.round, value: r.best.value}})
}

func (b *ballot) handChoose(l letter) {
	v := &b.voters[l.voter]
	if l.round < v.word {
		return
	}
	v.word, v.vote = l.round, l.vote
	l.kind = chosen
	b.send(l)
}

// handChosen: what is decided, or 0. What the round has told does not change any more, as it takes no promise behind that.
func (b *ballot) handChosen(l letter) int {
	r := b.rounds[l.round]
	r.chose.add(l.voter)
	if !b.most(r.chose) {
		return 0
	}
	return r.best.value
}
