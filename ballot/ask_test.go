package ballot

import (
	"testing"

	"commonhold/api"
)

// P21.2: a Round and a Value at their edges, each together with each.
func TestAsk(t *testing.T) {
	numbers := append(oddNumbers(), 0, 1, 2, 7, api.MaxCount-1, api.MaxCount, api.MaxCount+1, 1<<32+1)
	for voters := 1; voters <= api.MaxVoters; voters++ {
		for _, round := range numbers {
			for _, value := range numbers {
				want := sent(voters)
				if round < 1 || round > 1048576 || value < 1 || value > 1048576 {
					want = coded(api.ErrRange, 0)
				}
				plays(t, voters, turns(ask(round, value)), want)
			}
		}
	}
}

// P21.2: a round and a value that may be carry through to what is decided.
func TestAskCarried(t *testing.T) {
	for _, round := range []int{1, 2, api.MaxCount - 1, api.MaxCount} {
		for _, value := range []int{1, 2, api.MaxCount - 1, api.MaxCount} {
			tell(t, 3).carried(round, value, 1, 3).settled(round, value, 2, 3).end()
		}
	}
}

// P21.2: a round that was refused has not begun, and its letters are not there.
func TestAskRefused(t *testing.T) {
	for _, turn := range turns(ask(7, 0), ask(7, api.MaxCount+1), ask(7, -1)) {
		tell(t, 3).does(turn, api.ErrRange, 0).does(hand(0), api.ErrNone, 0).does(lose(0), api.ErrNone, 0).does(halt(7), api.ErrNone, 0).carried(7, 5, 1, 2).settled(7, 5, 1, 2).end()
	}
}

// P21.2: a round that there was is refused, whatever it is for, and goes on as it was; a wrong Value is told first.
func TestAskTwice(t *testing.T) {
	s := tell(t, 3).ask(4, 5)
	s.again().does(ask(4, 5), api.ErrTwice, 0).end()
	s.again().halt(4).does(ask(4, 5), api.ErrTwice, 0).does(ask(4, 6), api.ErrTwice, 0).end()
	for _, value := range []int{1, 6, api.MaxCount} {
		s.again().does(ask(4, value), api.ErrTwice, 0).promise(4, 2, 3).idle("promised", 4, 2).does(ask(4, value), api.ErrTwice, 0).tells(4, 3).settled(4, 5, 1, 3).does(ask(4, value), api.ErrTwice, 0).end()
	}
	for _, value := range append(oddNumbers(), 0, api.MaxCount+1) {
		s.again().does(ask(4, value), api.ErrRange, 0).halt(4).does(ask(4, value), api.ErrRange, 0).end()
	}
	// One that was stopped stays so.
	s.again().halt(4).does(ask(4, 6), api.ErrTwice, 0).promise(4, 1, 2, 3).idle("promised", 4, 1, 2, 3).end()
}

// P21.2: a round may come behind greater ones; a voter heeds it as long as its word is none of those.
func TestAskDescending(t *testing.T) {
	tell(t, 2).ask(9, 1).ask(5, 2).ask(1, 3).promise(1, 1).promise(5, 1).promise(9, 1).idle("asked", 5, 1).idle("asked", 1, 1).promise(9, 2).idle("asked", 5, 2).idle("asked", 1, 2).end()
	tell(t, 3).carried(api.MaxCount, 8, 1, 2).ask(1, 9).idle("asked", 1, 1, 2).promise(1, 3).idle("promised", 1, 3).settled(api.MaxCount, 8, 1, 3).end()
}

// P21.2: each voter is asked, once.
func TestAskEachVoter(t *testing.T) {
	for voters := 1; voters <= api.MaxVoters; voters++ {
		s := tell(t, voters).ask(3, 4)
		for voter := 1; voter <= voters; voter++ {
			s.promise(3, voter)
		}
		s.does(hand(2*voters), api.ErrNone, 0)
		for voter := 1; voter <= voters; voter++ {
			s.idle("asked", 3, voter)
		}
		s.end()
	}
}

// P21.2: an Ask does not ask who.
func TestAskAnyWho(t *testing.T) {
	for _, who := range append(oddNumbers(), 0, 1, 5) {
		turn := ask(2, 5)
		turn.Who = who
		plays(t, 2, turns(turn, hand(0), hand(1), hand(2), hand(3)), sent(2), sent(3), sent(4), sent(4), sent(6))
	}
}
