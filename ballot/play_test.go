package ballot

import (
	"math/rand"
	"slices"
	"testing"

	"commonhold/api"
)

// P21.1 to P21.4: some turns, one by one.
func TestPlay(t *testing.T) {
	plays(t, 3,
		turns(ask(1, 5), hand(0), hand(1), hand(3), hand(4), hand(5), hand(6), hand(8), hand(9)),
		sent(3), sent(4), sent(5), sent(5), sent(8), sent(9), sent(10), sent(10), decided(5, 10))
	plays(t, 1,
		turns(ask(3, 9), hand(0), hand(1), hand(2), hand(3), hand(3)),
		sent(1), sent(2), sent(3), sent(4), decided(9, 4), decided(9, 4))
	// What a ballot has, no other one has.
	plays(t, 1, turns(hand(0), halt(3), ask(3, 8)), coded(api.ErrNone, 0), coded(api.ErrNone, 0), sent(1))
	tell(t, 5).carried(1, 11, 1, 2, 3).settled(1, 11, 3, 4, 5).carried(2, 22, 5, 1, 2).settled(2, 11, 1, 2, 4).end()
}

// P21.1: voters from 1 to MaxVoters, and others, which are told ahead of too many turns.
func TestPlayVoters(t *testing.T) {
	for voters := 1; voters <= api.MaxVoters; voters++ {
		plays(t, voters, nil)
		plays(t, voters, []api.Turn{})
		plays(t, voters, turns(ask(1, 1)), sent(voters))
	}
	for _, voters := range append(oddNumbers(), -2, 0, api.MaxVoters+1, api.MaxVoters+2, 1<<32+1) {
		for _, l := range [][]api.Turn{nil, {}, turns(ask(1, 1)), turns(api.Turn{}), make([]api.Turn, api.MaxPlay), make([]api.Turn, api.MaxPlay+1), make([]api.Turn, 1<<16)} {
			if got, code := Play(voters, l); len(got) != 0 || code != api.ErrRange {
				t.Errorf("Play(%d, %d turns): %v, %d; want nothing, ErrRange", voters, len(l), got, code)
			}
		}
	}
}

// P21.1: no turns, MaxPlay of them, and more.
func TestPlaySize(t *testing.T) {
	for voters := 1; voters <= api.MaxVoters; voters++ {
		for _, turn := range turns(ask(1, 5), ask(0, 5), hand(0), lose(0), halt(1), api.Turn{}, api.Turn{Kind: 7, Who: -1}) {
			l := slices.Repeat(turns(turn), api.MaxPlay)
			plays(t, voters, l, modelPlay(voters, l)...)
			l[0] = ask(1, 5)
			plays(t, voters, l, modelPlay(voters, l)...)
			for _, more := range []int{1, 2, api.MaxPlay} {
				if got, code := Play(voters, append(slices.Clone(l), l[:more]...)); len(got) != 0 || code != api.ErrSize {
					t.Errorf("Play(%d, %d turns %v): %v, %d; want nothing, ErrSize", voters, api.MaxPlay+more, turn, got, code)
				}
			}
		}
		if got, code := Play(voters, make([]api.Turn, 1<<16)); len(got) != 0 || code != api.ErrSize {
			t.Errorf("Play(%d, many turns): %v, %d", voters, got, code)
		}
	}
}

// P21.1: a turn's Letters are all that were sent till then, whether it sent some, sent none, or was refused; lost ones count, too.
func TestPlayLetters(t *testing.T) {
	plays(t, 2,
		turns(halt(1), ask(1, 5), ask(1, 5), ask(0, 5), hand(0), hand(0), hand(9), lose(1), lose(1), hand(1), lose(9), halt(1), halt(2), api.Turn{}, hand(2), ask(2, 6), hand(3), hand(4)),
		coded(api.ErrNone, 0), sent(2), coded(api.ErrTwice, 2), coded(api.ErrRange, 2), sent(3), sent(3), coded(api.ErrNone, 3), sent(3), coded(api.ErrNone, 3), coded(api.ErrNone, 3), coded(api.ErrNone, 3), sent(3), coded(api.ErrNone, 3), coded(api.ErrKind, 3), sent(3), sent(5), sent(6), sent(7))
}

// P21.1: letters are numbered as they are sent: those of a round to each voter in one order, whichever letters there are.
func TestPlayNumbers(t *testing.T) {
	// Letters 4 and 5 are choose letters of round 1, to voters 1 and 2; only voter 2, whose word is not round 2, heeds its own.
	plays(t, 2,
		turns(ask(1, 5), hand(1), hand(0), hand(2), hand(3), ask(2, 6), hand(6), hand(4), hand(5)),
		sent(2), sent(3), sent(4), sent(4), sent(6), sent(8), sent(9), sent(9), sent(10))
	for voters := 1; voters <= api.MaxVoters; voters++ {
		// Voter i alone is asked for round 2, so that it alone does not heed round 1's choose letter.
		for i := range voters {
			first := asks(2)
			var promises []int
			for k := range voters {
				first = append(first, hand(k))
				promises = append(promises, 2*voters+k)
			}
			first = append(append(first, handed(promises[:voters/2+1]...)...), hand(voters+i))
			letters := 3*voters + voters + 1
			for k := range voters {
				l := append(slices.Clone(first), hand(3*voters+k))
				got, code := Play(voters, l)
				want := letters + 1
				if k == i {
					want = letters
				}
				if code != api.OK || got[len(l)-1] != sent(want) {
					t.Errorf("Play(%d, %v): %v, %d; want at last %d letters", voters, l, got, code, want)
				}
			}
		}
	}
}

// P21.1: what is decided is told in turns that hand a chosen letter, and in no other one.
func TestPlayDecided(t *testing.T) {
	s := tell(t, 3).carried(1, 5, 1, 2).settled(1, 5, 1, 2)
	s.again().ask(2, 6).end()
	s.again().halt(1).decides(1, 1, 5).decides(1, 2, 5).end()
	s.again().does(lose(0), api.OK, 0).does(hand(0), api.ErrNone, 0).decides(1, 1, 5).end()
	s.again().does(ask(1, 5), api.ErrTwice, 0).does(ask(0, 0), api.ErrRange, 0).does(api.Turn{}, api.ErrKind, 0).does(halt(2), api.ErrNone, 0).end()
	s.again().idle("asked", 1, 1, 2).idle("promised", 1, 1, 2).decides(1, 2, 5).chooses(1, 3).idle("asked", 1, 3).decides(1, 3, 5).idle("promised", 1, 1).end()
	s.again().carried(2, 6, 2, 3).settled(2, 5, 2, 3).decides(1, 1, 5).end()
}

// P21.1: MaxMail letters are sent, and no more: some of a round's, or none.
func TestPlayMail(t *testing.T) {
	for voters := 1; voters <= api.MaxVoters; voters++ {
		rounds := api.MaxMail/voters + 2
		l := asks(rounds)
		var want []api.Outcome
		for i := range rounds {
			want = append(want, sent(min((i+1)*voters, api.MaxMail)))
		}
		// Each round has begun, also one whose letters were not sent.
		l = append(l, ask(rounds, 1), halt(rounds), halt(rounds+1), hand(api.MaxMail-1), hand(api.MaxMail), lose(api.MaxMail), lose(api.MaxMail-1), hand(api.MaxMail-1), hand(0))
		for _, code := range []api.Errno{api.ErrTwice, api.OK, api.ErrNone, api.OK, api.ErrNone, api.ErrNone, api.OK, api.ErrNone, api.OK} {
			want = append(want, coded(code, api.MaxMail))
		}
		plays(t, voters, l, want...)
	}
}

// P21.1: a promise, a choose letter or a chosen one at the edge of MaxMail.
func TestPlayMailLast(t *testing.T) {
	for voters := 1; voters <= api.MaxVoters; voters++ {
		for kept := range 5 * voters {
			// Round 1 goes on while there is room for only so many letters.
			l := turns(ask(1, 5))
			for n := 2; voters*n <= api.MaxMail-kept; n++ {
				l = append(l, ask(n, n))
			}
			for i := range api.MaxMail {
				l = append(l, hand(i))
			}
			plays(t, voters, l, modelPlay(voters, l)...)
		}
	}
	// Of three voters' letters, the choose letters of voters 1 and 2 are the last that are sent, so that there is no chosen one.
	l := asks(65)
	l = append(l, handed(0, 1, 2, 195, 196, 198, 199, 200)...)
	got, _ := Play(3, l)
	if want := outcomes(sent(195), sent(196), sent(197), sent(198), sent(198), sent(200), sent(200), sent(200), coded(api.ErrNone, 200)); !slices.Equal(got[64:], want) {
		t.Errorf("at the edge: %v; want %v", got[64:], want)
	}
	// Of one voter's letters, the chosen one is the last.
	l = append(asks(197), handed(0, 197, 198, 199)...)
	got, _ = Play(1, l)
	if want := outcomes(sent(197), sent(198), sent(199), sent(200), decided(1, 200)); !slices.Equal(got[196:], want) {
		t.Errorf("at the edge: %v; want %v", got[196:], want)
	}
	// A promise that is not sent: the voter's word is the round all the same, and a chosen letter that was sent decides all the same.
	l = append(asks(195), turns(hand(0), hand(195), hand(196), ask(200, 9), ask(201, 9), hand(198), hand(199), hand(197))...)
	got, _ = Play(1, l)
	if want := outcomes(sent(196), sent(197), sent(198), sent(199), sent(200), sent(200), sent(200), decided(1, 200)); !slices.Equal(got[195:], want) {
		t.Errorf("at the edge: %v; want %v", got[195:], want)
	}
}

// P21.1 to P21.4: all plays of a few turns that meet, behind a round that has told its value.
func TestPlayAll(t *testing.T) {
	for voters := 1; voters <= 3; voters++ {
		first := tell(t, voters).carried(2, 5, []int{1, 2}[:voters/2+1]...).ask(3, 6).l
		letters := len(tell(t, voters).carried(2, 5, []int{1, 2}[:voters/2+1]...).ask(3, 6).names)
		choices := turns(ask(1, 7), ask(4, 8), ask(3, 9), halt(2), halt(3), lose(0), lose(letters-1), hand(-1))
		for who := range letters + 3 {
			choices = append(choices, hand(who))
		}
		n := len(choices)
		for number := range n * n * n {
			l := slices.Clone(first)
			for rest, k := number, 0; k < 3; rest, k = rest/n, k+1 {
				l = append(l, choices[rest%n])
			}
			for who := letters; who < letters+5; who++ {
				l = append(l, hand(who))
			}
			checkPlay(t, voters, l, modelPlay(voters, l))
		}
	}
}

// P21.1 to P21.4: plays of all that may come.
func TestPlayRandom(t *testing.T) {
	random := rand.New(rand.NewSource(211))
	codes := map[api.Errno]int{}
	full := 0
	for i := range 6000 {
		voters := 1 + i%api.MaxVoters
		l := randomTurns(random, voters, 12, 1+random.Intn(120))
		want := modelPlay(voters, l)
		checkPlay(t, voters, l, want)
		for _, o := range want {
			codes[o.Code]++
		}
	}
	for _, code := range []api.Errno{api.OK, api.ErrRange, api.ErrKind, api.ErrNone, api.ErrTwice} {
		if codes[code] < 1000 {
			t.Errorf("only %d turns come to %d", codes[code], code)
		}
	}
	for i := range 300 {
		voters := 1 + i%api.MaxVoters
		l := randomTurns(random, voters, 100, api.MaxPlay)
		want := modelPlay(voters, l)
		checkPlay(t, voters, l, want)
		if want[len(want)-1].Letters == api.MaxMail {
			full++
		}
	}
	if full < 30 {
		t.Errorf("only %d ballots have all letters", full)
	}
}

// What comes of it: what was decided once is decided ever after, in whatever round.
func TestDecidedEverAfter(t *testing.T) {
	random := rand.New(rand.NewSource(212))
	again := 0
	for i := range 6000 {
		voters := 1 + i%api.MaxVoters
		l := randomTurns(random, voters, 12, 150)
		m := &model{voters: voters}
		got, _ := Play(voters, l)
		value, round := 0, 0
		for k, o := range got {
			m.play(l[k])
			switch {
			case o.Decided == 0:
			case value == 0:
				value, round = o.Decided, m.letters[l[k].Who].round
			case o.Decided != value:
				t.Fatalf("Play(%d, %v): turn %d decides %d; it was %d", voters, l, k, o.Decided, value)
			case m.letters[l[k].Who].round != round:
				again++
			}
		}
	}
	if again < 3000 {
		t.Errorf("only %d times a value was decided in another round", again)
	}
}
