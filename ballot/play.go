package ballot

import "commonhold/api"

// ballot: who decides, the rounds that there were, and each letter that was sent, by its number. Lost ones stay, so that no number is told anew.
type ballot struct {
	voters  []voter
	rounds  map[int]*round
	letters []letter
}

// play: what a turn decides (0: nothing), and its code.
func (b *ballot) play(t api.Turn) (int, api.Errno) {
	switch t.Kind {
	case api.Ask:
		return 0, b.ask(t.Round, t.Value)
	case api.Hand:
		return b.hand(t.Who)
	case api.Lose:
		return 0, b.lose(t.Who)
	case api.Halt:
		return 0, b.halt(t.Round)
	}
	return 0, api.ErrKind
}

func (b *ballot) ask(number, value int) api.Errno {
	if !counts(number) || !counts(value) {
		return api.ErrRange
	}
	if b.rounds[number] != nil {
		return api.ErrTwice
	}
	b.rounds[number] = &round{best: vote{value: value}}
	b.sendAll(letter{kind: asked, round: number})
	return api.OK
}

// counts: whether a number may be that of a round, or a value.
func counts(n int) bool { return n >= 1 && n <= api.MaxCount }

func (b *ballot) hand(who int) (int, api.Errno) {
	if !b.has(who) {
		return 0, api.ErrNone
	}
	l := b.letters[who]
	switch l.kind {
	case asked:
		b.handAsked(l)
	case promised:
		b.handPromised(l)
	case choose:
		b.handChoose(l)
	case chosen:
		return b.handChosen(l), api.OK
	}
	return 0, api.OK
}

func (b *ballot) lose(who int) api.Errno {
	if !b.has(who) {
		return api.ErrNone
	}
	b.letters[who].lost = true
	return api.OK
}

func (b *ballot) halt(number int) api.Errno {
	r := b.rounds[number]
	if r == nil {
		return api.ErrNone
	}
	r.stopped = true
	return api.OK
}

// has: whether there is the letter who, and it was not lost.
func (b *ballot) has(who int) bool {
	return who >= 0 && who < len(b.letters) && !b.letters[who].lost
}

// send: a letter is on its way, if there is room for it.
func (b *ballot) send(l letter) {
	if len(b.letters) < api.MaxMail {
		b.letters = append(b.letters, l)
	}
}

// sendAll sends a letter to each voter.
func (b *ballot) sendAll(l letter) {
	for i := range b.voters {
		l.voter = i
		b.send(l)
	}
}

// most: whether these are more than half of the voters.
func (b *ballot) most(c crowd) bool { return 2*c.count > len(b.voters) }
