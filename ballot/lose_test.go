package ballot

import (
	"testing"

	"commonhold/api"
)

// P21.4: a letter that is lost is not there any more, neither to be handed nor to be lost; others are.
func TestLose(t *testing.T) {
	for who := range 3 {
		s := tell(t, 3).ask(1, 5).does(lose(who), api.OK, 0).does(hand(who), api.ErrNone, 0).does(lose(who), api.ErrNone, 0).does(hand(who), api.ErrNone, 0)
		for voter := 1; voter <= 3; voter++ {
			if voter != who+1 {
				s.promise(1, voter)
			}
		}
		s.end()
	}
	plays(t, 3, turns(lose(0)), coded(api.ErrNone, 0))
}

// P21.4: a letter that there is not.
func TestLoseNone(t *testing.T) {
	for _, who := range append(oddNumbers(), -2, 4, 5, api.MaxMail) {
		plays(t, 3, turns(ask(1, 5), hand(0), lose(who), lose(3)), sent(3), sent(4), coded(api.ErrNone, 4), sent(4))
	}
}

// P21.4: a letter of each kind is lost, unhanded or behind that; what came of it stays.
func TestLoseEachKind(t *testing.T) {
	s := tell(t, 3)
	lost := func(kind string, round, voter int) {
		who := s.number(kind, round, voter)
		s.does(lose(who), api.OK, 0).does(hand(who), api.ErrNone, 0).does(lose(who), api.ErrNone, 0)
	}
	s.ask(1, 5).promise(1, 1, 2, 3)
	lost("asked", 1, 2)
	lost("promised", 1, 1)
	s.idle("promised", 1, 2)
	lost("promised", 1, 2)
	s.tells(1, 3)
	lost("choose", 1, 2)
	s.chooses(1, 1, 3)
	lost("choose", 1, 3)
	s.idle("chosen", 1, 1)
	lost("chosen", 1, 1)
	s.decides(1, 3, 5).decides(1, 3, 5)
	lost("chosen", 1, 3)
	s.end()
}

// P21.4: all of a round's letters are lost: nothing comes of it, but the next one does.
func TestLoseAll(t *testing.T) {
	s := tell(t, 2).ask(1, 5).promise(1, 1)
	for who := range 3 {
		s.does(lose(who), api.OK, 0)
	}
	for who := range 3 {
		s.does(hand(who), api.ErrNone, 0)
	}
	s.carried(2, 6, 1, 2).settled(2, 6, 1, 2).end()
}

// P21.4: lost letters have their numbers and their room still.
func TestLoseNumbers(t *testing.T) {
	s := tell(t, 5)
	for round := 1; round <= api.MaxMail/5; round++ {
		s.ask(round, round).does(lose(5*round-1), api.OK, 0)
	}
	s.does(ask(99, 1), api.OK, 0).does(hand(api.MaxMail), api.ErrNone, 0).does(hand(0), api.OK, 0).end()
	plays(t, 2, turns(ask(1, 5), lose(1), hand(0), hand(1), hand(2)), sent(2), sent(2), sent(3), coded(api.ErrNone, 3), sent(3))
}

// P21.4: Lose and Hand do not ask for a round or a value, nor Halt for a letter or a value.
func TestLoseAnyOther(t *testing.T) {
	for _, n := range append(oddNumbers(), 0, 1, 2, 9, api.MaxCount+1) {
		plays(t, 1, turns(ask(3, 5), api.Turn{Kind: api.Hand, Round: n, Value: n}, api.Turn{Kind: api.Lose, Round: n, Value: n}, hand(0), api.Turn{Kind: api.Halt, Who: n, Round: 3, Value: n}, hand(1)),
			sent(1), sent(2), sent(2), coded(api.ErrNone, 2), sent(2), sent(2))
	}
}

// P21.4: a round that there was not.
func TestHaltNone(t *testing.T) {
	for _, round := range append(oddNumbers(), -2, 0, 1, 3, api.MaxCount, api.MaxCount+1) {
		tell(t, 1).does(halt(round), api.ErrNone, 0).end()
		tell(t, 2).ask(2, 5).does(halt(round), api.ErrNone, 0).promise(2, 1, 2).idle("promised", 2, 1).tells(2, 2).settled(2, 5, 1, 2).end()
	}
	// That a round is stopped ahead of its beginning is not known behind it.
	tell(t, 3).does(halt(1), api.ErrNone, 0).carried(1, 5, 1, 2).settled(1, 5, 1, 2).end()
}

// P21.4: a round that is stopped counts no promises any more, also when it is stopped twice; others do.
func TestHalt(t *testing.T) {
	tell(t, 3).ask(1, 5).halt(1).promise(1, 1, 2, 3).idle("promised", 1, 1, 2, 3, 1, 2, 3).end()
	tell(t, 3).ask(1, 5).promise(1, 1, 2, 3).idle("promised", 1, 1).halt(1).idle("promised", 1, 2, 3).halt(1).idle("promised", 1, 2, 3).end()
	tell(t, 3).ask(1, 5).halt(1).halt(1).halt(1).promise(1, 2).idle("promised", 1, 2).end()
	tell(t, 3).ask(1, 5).ask(2, 6).halt(1).promise(1, 1).promise(2, 1, 3).idle("promised", 1, 1).idle("promised", 2, 1).tells(2, 3).settled(2, 6, 1, 3).end()
	tell(t, 1).ask(1, 5).promise(1, 1).halt(1).idle("promised", 1, 1).end()
}

// P21.4: a round that is stopped behind what it has told: its letters do what they do, and it decides.
func TestHaltTold(t *testing.T) {
	tell(t, 3).carried(1, 5, 1, 2).halt(1).settled(1, 5, 2, 3).decides(1, 2, 5).end()
	tell(t, 3).carried(1, 5, 1, 2).chooses(1, 1, 2).idle("chosen", 1, 1).halt(1).halt(1).decides(1, 2, 5).end()
	tell(t, 3).carried(1, 5, 1, 2).settled(1, 5, 1, 2).halt(1).carried(2, 6, 2, 3).settled(2, 5, 1, 3).end()
	tell(t, 3).carried(1, 5, 1, 2).halt(1).promise(1, 3).idle("promised", 1, 3).end()
}

// P21.4: a Kind that is none, whatever else the turn has; nothing comes of it.
func TestKinds(t *testing.T) {
	for _, kind := range append(oddNumbers(), 0, api.Halt+1, api.Halt+2, 1<<32+1) {
		for _, n := range []int{-1, 0, 1, 2, 3, api.MaxCount + 1} {
			turn := api.Turn{Kind: kind, Who: n, Round: n, Value: n}
			tell(t, 3).does(turn, api.ErrKind, 0).carried(2, 5, 1, 2).does(turn, api.ErrKind, 0).settled(2, 5, 1, 2).does(turn, api.ErrKind, 0).end()
		}
	}
}
