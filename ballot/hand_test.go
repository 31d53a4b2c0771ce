package ballot

import (
	"slices"
	"testing"

	"commonhold/api"
)

// half: how many voters are more than half of so many.
func half() map[int]int { return map[int]int{1: 1, 2: 2, 3: 2, 4: 3, 5: 3} }

// some: voters from 1 to n.
func some(n int) []int {
	var l []int
	for voter := range n {
		l = append(l, voter+1)
	}
	return l
}

// orders: the numbers in each order.
func orders(l []int) [][]int {
	if len(l) == 0 {
		return [][]int{nil}
	}
	var found [][]int
	for i, n := range l {
		rest := slices.Delete(slices.Clone(l), i, i+1)
		for _, o := range orders(rest) {
			found = append(found, append([]int{n}, o...))
		}
	}
	return found
}

// P21.3: a letter that there is not, or that was lost.
func TestHandNone(t *testing.T) {
	for _, who := range append(oddNumbers(), -2, 0, 1, api.MaxMail, 1<<32) {
		plays(t, 3, turns(hand(who)), coded(api.ErrNone, 0))
	}
	for _, who := range append(oddNumbers(), -2, 4, 5, api.MaxMail, 1<<32) {
		plays(t, 3, turns(ask(1, 5), hand(0), hand(who), hand(3), hand(1), hand(4), hand(8)), sent(3), sent(4), coded(api.ErrNone, 4), sent(4), sent(5), sent(8), coded(api.ErrNone, 8))
	}
	plays(t, 3, turns(ask(1, 5), lose(2), hand(2), hand(1), hand(2)), sent(3), sent(3), coded(api.ErrNone, 3), sent(4), coded(api.ErrNone, 4))
}

// P21.3: an asked letter to a voter whose word is 0, a lower round, the same one or a greater one.
func TestAsked(t *testing.T) {
	s := tell(t, 3).ask(4, 1).ask(5, 2).ask(6, 3).promise(5, 1)
	s.again().idle("asked", 5, 1, 1).end()
	s.again().idle("asked", 4, 1).promise(6, 1).idle("asked", 5, 1).idle("asked", 6, 1).idle("asked", 4, 1).end()
	s.again().promise(6, 1).idle("asked", 5, 1).end()
	// Each voter has a word of its own.
	s.again().promise(4, 2).promise(5, 2).promise(6, 3).idle("asked", 5, 3).promise(6, 2, 1).end()
}

// P21.3: what a voter chose is its word from then on, too, whether it was asked or not.
func TestAskedBehindChoose(t *testing.T) {
	s := tell(t, 3).carried(4, 5, 1, 2).ask(3, 1).ask(5, 2).ask(6, 3)
	s.again().chooses(4, 3).idle("asked", 4, 3).idle("asked", 3, 3).promise(5, 3).end()
	s.again().promise(3, 3).chooses(4, 3).idle("asked", 3, 3).idle("asked", 4, 3).promise(6, 3).idle("asked", 5, 3).end()
	s.again().promise(5, 3).idle("choose", 4, 3).idle("asked", 4, 3).promise(6, 3).end()
}

// P21.3: a promise comes again: it counts once.
func TestPromisedTwice(t *testing.T) {
	for voters, need := range half() {
		s := tell(t, voters).ask(1, 5).promise(1, some(voters)...)
		for _, voter := range some(need - 1) {
			s.idle("promised", 1, voter, voter, 1)
		}
		s.again().tells(1, need).idle("promised", 1, some(voters)...).idle("promised", 1, need).settled(1, 5, some(need)...).end()
	}
}

// P21.3: as soon as more than half count, the round tells its value; half of them is not enough.
func TestPromisedHalf(t *testing.T) {
	for voters, need := range half() {
		for _, order := range orders(some(voters)) {
			tell(t, voters).ask(2, 5).promise(2, order...).idle("promised", 2, order[:need-1]...).tells(2, order[need-1]).idle("promised", 2, order[need:]...).settled(2, 5, order[voters-need:]...).end()
		}
	}
}

// P21.3: promises count in the round that they are sent to alone.
func TestPromisedOtherRound(t *testing.T) {
	tell(t, 3).ask(1, 5).ask(2, 6).promise(1, 1, 2).promise(2, 1, 2, 3).idle("promised", 1, 1).idle("promised", 2, 2).tells(2, 3).tells(1, 2).idle("promised", 2, 1).end()
	tell(t, 5).ask(1, 5).ask(2, 6).ask(3, 7).promise(1, 1, 2).promise(2, 2, 3).promise(3, 3, 1).idle("promised", 1, 1, 2).idle("promised", 2, 2, 3).idle("promised", 3, 3, 1).end()
}

// P21.3: a promise to a round that was stopped, or has told its value, is nothing.
func TestPromisedTooLate(t *testing.T) {
	// Voter 3 chose in round 2, ahead of its promise to round 3, which has told its own value till then.
	s := tell(t, 3).carried(2, 5, 1, 2).chooses(2, 3).carried(3, 6, 1, 2).promise(3, 3)
	s.again().idle("promised", 3, 3).settled(3, 6, 1, 2).end()
	s.again().settled(3, 6, 1, 2).idle("promised", 3, 3).decides(3, 1, 6).end()
	// Had that promise come ahead, it would be 5.
	s = tell(t, 3).carried(2, 5, 1, 2).chooses(2, 3).ask(3, 6).promise(3, 1, 2, 3)
	s.again().idle("promised", 3, 3).tells(3, 1).settled(3, 5, 1, 2).end()
	s.again().idle("promised", 3, 1).tells(3, 3).settled(3, 5, 1, 2).end()
	s.again().idle("promised", 3, 1).halt(3).idle("promised", 3, 1, 2, 3).end()
}

// chosenBy: a story of five voters in which voter 1 chose 20 in round 1, voter 2 chose 30 in round 2, voter 3 chose 10 in round 3, and voters 4 and 5 chose nothing.
func chosenBy(t *testing.T) *story {
	return tell(t, 5).
		carried(1, 20, 1, 4, 5).chooses(1, 1).
		carried(2, 30, 2, 4, 5).chooses(2, 2).
		carried(3, 10, 3, 4, 5).chooses(3, 3)
}

// P21.3: of those chosen that the promises have, the one of the greatest round is told, in whatever order they come, be it a great one or not.
func TestPromisedGreatest(t *testing.T) {
	for _, order := range orders(some(5)) {
		three := order[:3]
		want := 0
		for voter, value := range []int{0, 20, 30, 10} {
			if slices.Contains(three, voter) {
				want = value
			}
		}
		for _, own := range []int{1, 99} {
			chosenBy(t).carried(7, own, three...).settled(7, want, order[2:]...).end()
		}
	}
}

// P21.3: none chose: the round's own value, however great its number.
func TestPromisedOwn(t *testing.T) {
	for _, value := range []int{1, 5, api.MaxCount} {
		tell(t, 3).carried(4, 3, 1, 2).carried(5, value, 2, 3).settled(5, value, 1, 2).end()
	}
}

// P21.3: a promise has what its voter had chosen when it sent it, and that alone.
func TestPromisedWhenSent(t *testing.T) {
	// Voter 1 chose in round 4 behind its promise to round 3, so that round 3 tells its own value, and round 5 what voter 2 chose in round 3.
	s := tell(t, 5).ask(3, 6).promise(3, 1, 2, 3).carried(4, 5, 3, 4, 5).chooses(4, 1).idle("promised", 3, 1, 2).tells(3, 3).chooses(3, 2)
	s.again().carried(5, 9, 2, 3, 4).settled(5, 6, 2, 3, 4).end()
	s.again().carried(5, 9, 1, 2, 3).settled(5, 5, 2, 3, 4).end()
	// Here its promise to round 3 has what it chose in round 1.
	tell(t, 5).carried(1, 5, 1, 2, 3).chooses(1, 1).ask(3, 6).promise(3, 1, 2, 3).carried(4, 7, 3, 4, 5).chooses(4, 1).idle("promised", 3, 2, 3).tells(3, 1).chooses(3, 2).carried(5, 9, 2, 3, 4).settled(5, 5, 2, 3, 4).end()
}

// P21.3: a voter that chose more than once promises with what it chose last.
func TestPromisedLast(t *testing.T) {
	// Voter 1 chose 10 in round 1, and 20 in round 2; voter 2 chose 10 in round 1 alone.
	s := tell(t, 5).carried(1, 10, 1, 2, 5).chooses(1, 1, 2).carried(2, 20, 3, 4, 5).chooses(2, 1)
	s.again().carried(3, 30, 1, 2, 3).settled(3, 20, 1, 2, 3).end()
	s.again().carried(3, 30, 2, 1, 4).settled(3, 20, 1, 2, 3).end()
	s.again().carried(3, 30, 2, 3, 4).settled(3, 10, 1, 2, 3).end()
	// What was chosen goes on from round to round.
	s.again().carried(3, 30, 2, 3, 4).chooses(3, 5).carried(4, 40, 5, 3, 4).settled(4, 10, 3, 4, 5).end()
	s.again().carried(3, 30, 2, 3, 4).chooses(3, 5).carried(4, 40, 1, 3, 5).settled(4, 10, 3, 4, 5).end()
}

// P21.3: a choose letter to a voter whose word is lower, the same round or greater.
func TestChoose(t *testing.T) {
	s := tell(t, 3).ask(3, 1).ask(5, 2).carried(4, 5, 1, 2)
	s.again().chooses(4, 1, 2, 3).end()
	s.again().promise(3, 3).chooses(4, 3).idle("asked", 4, 3).end()
	s.again().promise(5, 3, 1).idle("choose", 4, 3, 1, 3).chooses(4, 2).end()
	// Nothing was chosen by those who did not heed it.
	s.again().promise(5, 3, 1).idle("choose", 4, 3, 1).idle("promised", 5, 3).tells(5, 1).settled(5, 2, 1, 2).end()
}

// P21.3: a choose letter that comes again is heeded again, as long as no greater round is the voter's word; the voter counts once.
func TestChooseTwice(t *testing.T) {
	s := tell(t, 3).carried(4, 5, 1, 2).chooses(4, 1)
	first := s.number("chosen", 4, 1)
	s.chooses(4, 1, 1)
	for _, who := range []int{first, first + 1, first + 2, first} {
		s.does(hand(who), api.OK, 0)
	}
	s.again().chooses(4, 3).decides(4, 3, 5).does(hand(first+2), api.OK, 5).end()
	s.again().ask(5, 6).promise(5, 1).idle("choose", 4, 1).end()
	s.again().ask(5, 6).ask(3, 6).idle("asked", 3, 1).chooses(4, 1).end()
}

// P21.3: a choose letter that comes again behind a later choice is nothing, and the later choice stays.
func TestChooseOlder(t *testing.T) {
	tell(t, 5).carried(1, 10, 1, 2, 5).chooses(1, 1).carried(2, 20, 3, 4, 5).chooses(2, 1).idle("choose", 1, 1).carried(3, 30, 1, 2, 3).settled(3, 20, 1, 2, 3).end()
}

// P21.3: more than half of the voters have to choose in a round; half of them is not enough, nor do they count twice.
func TestChosenHalf(t *testing.T) {
	for voters, need := range half() {
		for _, order := range orders(some(voters)) {
			s := tell(t, voters).carried(2, 5, some(need)...).chooses(2, order...)
			for _, voter := range order[:need-1] {
				s.idle("chosen", 2, voter, voter, order[0])
			}
			for _, voter := range order[need-1:] {
				s.decides(2, voter, 5).decides(2, voter, 5).decides(2, order[0], 5)
			}
			s.end()
		}
	}
}

// P21.3: a chosen letter that comes again tells what is decided where more than half chose till then, and nothing where not.
func TestChosenAgain(t *testing.T) {
	tell(t, 5).carried(1, 5, 1, 2, 3).chooses(1, 1, 2, 3).idle("chosen", 1, 1, 1, 2, 1, 2).decides(1, 3, 5).decides(1, 1, 5).decides(1, 2, 5).decides(1, 3, 5).end()
}

// P21.3: who chose in one round does not count in another one, though the value is the same.
func TestChosenOtherRound(t *testing.T) {
	s := tell(t, 3).carried(1, 5, 1, 2).chooses(1, 1).carried(2, 6, 1, 2).chooses(2, 2)
	s.idle("chosen", 1, 1).idle("chosen", 2, 2).idle("chosen", 1, 1).idle("chosen", 2, 2)
	s.again().chooses(2, 3).decides(2, 3, 5).idle("chosen", 1, 1).end()
	s.again().idle("choose", 1, 2).chooses(1, 3).decides(1, 3, 5).idle("chosen", 2, 2).end()
}

// P21.3: who chose counts when that is heard, whatever the voter's word is by then.
func TestChosenLate(t *testing.T) {
	s := tell(t, 3).carried(1, 5, 1, 2).chooses(1, 1, 2).carried(2, 6, 1, 2)
	s.again().idle("chosen", 1, 1).decides(1, 2, 5).settled(2, 5, 1, 3).end()
	s.again().settled(2, 5, 1, 3).idle("chosen", 1, 2).decides(1, 1, 5).end()
	// Round 1 has told, and so it decides; a round that nobody heeds does not.
	tell(t, 3).carried(1, 5, 1, 2).carried(2, 6, 1, 2).idle("choose", 1, 1, 2).chooses(1, 3).idle("chosen", 1, 3).settled(2, 6, 2, 3).idle("chosen", 1, 3).end()
}

// P21.3: what is decided is what the round has told, not what it was for.
func TestChosenValue(t *testing.T) {
	for _, value := range []int{1, 4, 6, api.MaxCount} {
		tell(t, 1).carried(1, 5, 1).settled(1, 5, 1).carried(2, value, 1).settled(2, 5, 1).carried(api.MaxCount, value, 1).settled(api.MaxCount, 5, 1).end()
	}
}
