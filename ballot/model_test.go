package ballot

import (
	"fmt"
	"math"
	"math/rand"
	"slices"
	"testing"

	"commonhold/api"
)

func ask(round, value int) api.Turn { return api.Turn{Kind: api.Ask, Round: round, Value: value} }

func hand(who int) api.Turn { return api.Turn{Kind: api.Hand, Who: who} }

func lose(who int) api.Turn { return api.Turn{Kind: api.Lose, Who: who} }

func halt(round int) api.Turn { return api.Turn{Kind: api.Halt, Round: round} }

func turns(l ...api.Turn) []api.Turn { return l }

// handed: letters are handed one by one.
func handed(l ...int) []api.Turn {
	var made []api.Turn
	for _, who := range l {
		made = append(made, hand(who))
	}
	return made
}

// asks: so many rounds, from 1 on, each for its own number.
func asks(n int) []api.Turn {
	var made []api.Turn
	for i := range n {
		made = append(made, ask(i+1, i+1))
	}
	return made
}

func outcomes(l ...api.Outcome) []api.Outcome { return l }

func sent(letters int) api.Outcome { return api.Outcome{Letters: letters} }

func decided(value, letters int) api.Outcome { return api.Outcome{Decided: value, Letters: letters} }

func coded(code api.Errno, letters int) api.Outcome { return api.Outcome{Code: code, Letters: letters} }

// oddNumbers: what is no place, no round and no value.
func oddNumbers() []int { return []int{math.MinInt64, -1, math.MaxInt64} }

// mail: a letter as the words of the chapter have it. In and value are what was chosen.
type mail struct {
	kind                    string
	voter, round, in, value int
}

// happening: a thing that came to be. What is so at a time is what the last happening of its kind says.
type happening struct {
	what                    string
	voter, round, in, value int
}

// model: a ballot by the words of P21.1 to P21.4, with nothing but the letters and what happened, all of which is gone through whenever something is asked.
type model struct {
	voters  int
	letters []mail
	past    []happening
}

// all: what happened of a kind, to a voter (0: to any), in a round (0: in any).
func (m *model) all(what string, voter, round int) []happening {
	var found []happening
	for _, h := range m.past {
		if h.what == what && (voter == 0 || h.voter == voter) && (round == 0 || h.round == round) {
			found = append(found, h)
		}
	}
	return found
}

func (m *model) was(what string, voter, round int) bool { return len(m.all(what, voter, round)) > 0 }

// last: the last thing of a kind that happened to a voter, or nothing.
func (m *model) last(what string, voter int) happening {
	l := m.all(what, voter, 0)
	if len(l) == 0 {
		return happening{}
	}
	return l[len(l)-1]
}

// isLost: a letter's number stands as the round of its loss.
func (m *model) isLost(who int) bool { return m.was("lost", 0, who+1) }

func (m *model) there(who int) bool { return 0 <= who && who < len(m.letters) && !m.isLost(who) }

func (m *model) send(l mail) {
	m.letters = append(m.letters, l)
	m.letters = m.letters[:min(len(m.letters), 200)]
}

// moreThanHalf: whether of that many voters more did it than did not.
func (m *model) moreThanHalf(what string, round int) bool {
	did := 0
	for voter := 1; voter <= m.voters; voter++ {
		if m.was(what, voter, round) {
			did++
		}
	}
	return did > m.voters-did
}

// told: the value that a round tells, of those chosen that its promises have.
func (m *model) told(round int) int {
	l := m.all("promise counts", 0, round)
	slices.SortStableFunc(l, func(a, b happening) int { return b.in - a.in })
	if l[0].in > 0 {
		return l[0].value
	}
	return m.all("begun", 0, round)[0].value
}

// handed: what is decided when a letter that there is comes to whom it was sent.
func (m *model) handed(l mail) int {
	word := m.last("word", l.voter).round
	switch {
	case l.kind == "asked" && l.round > word:
		chose := m.last("chose", l.voter)
		m.past = append(m.past, happening{what: "word", voter: l.voter, round: l.round})
		m.send(mail{kind: "promised", voter: l.voter, round: l.round, in: chose.in, value: chose.value})
	case l.kind == "promised" && !m.was("stopped", 0, l.round) && !m.was("told", 0, l.round) && !m.was("promise counts", l.voter, l.round):
		m.past = append(m.past, happening{what: "promise counts", voter: l.voter, round: l.round, in: l.in, value: l.value})
		if m.moreThanHalf("promise counts", l.round) {
			value := m.told(l.round)
			m.past = append(m.past, happening{what: "told", round: l.round, value: value})
			for voter := 1; voter <= m.voters; voter++ {
				m.send(mail{kind: "choose", voter: voter, round: l.round, in: l.round, value: value})
			}
		}
	case l.kind == "choose" && l.round >= word:
		m.past = append(m.past, happening{what: "word", voter: l.voter, round: l.round}, happening{what: "chose", voter: l.voter, round: l.round, in: l.in, value: l.value})
		m.send(mail{kind: "chosen", voter: l.voter, round: l.round})
	case l.kind == "chosen":
		m.past = append(m.past, happening{what: "chosen counts", voter: l.voter, round: l.round})
		if m.moreThanHalf("chosen counts", l.round) {
			return m.all("told", 0, l.round)[0].value
		}
	}
	return 0
}

// refused: why a turn is, or OK.
func (m *model) refused(t api.Turn) api.Errno {
	switch t.Kind {
	case api.Ask:
		if t.Round < 1 || t.Round > 1048576 || t.Value < 1 || t.Value > 1048576 {
			return api.ErrRange
		}
		if m.was("begun", 0, t.Round) {
			return api.ErrTwice
		}
	case api.Hand, api.Lose:
		if !m.there(t.Who) {
			return api.ErrNone
		}
	case api.Halt:
		if t.Round == 0 || !m.was("begun", 0, t.Round) {
			return api.ErrNone
		}
	default:
		return api.ErrKind
	}
	return api.OK
}

func (m *model) play(t api.Turn) api.Outcome {
	o := api.Outcome{Code: m.refused(t)}
	if o.Code == api.OK {
		switch t.Kind {
		case api.Ask:
			m.past = append(m.past, happening{what: "begun", round: t.Round, value: t.Value})
			for voter := 1; voter <= m.voters; voter++ {
				m.send(mail{kind: "asked", voter: voter, round: t.Round})
			}
		case api.Hand:
			o.Decided = m.handed(m.letters[t.Who])
		case api.Lose:
			m.past = append(m.past, happening{what: "lost", round: t.Who + 1})
		case api.Halt:
			m.past = append(m.past, happening{what: "stopped", round: t.Round})
		}
	}
	o.Letters = len(m.letters)
	return o
}

// modelPlay: the words of the chapter, of voters and turns that are not refused.
func modelPlay(voters int, l []api.Turn) []api.Outcome {
	m := &model{voters: voters}
	var told []api.Outcome
	for _, t := range l {
		told = append(told, m.play(t))
	}
	return told
}

// brief: a thing as a text that is not too long to be told.
func brief(x any) string {
	s := fmt.Sprint(x)
	return s[:min(len(s), 1500)]
}

// checkPlay: that turns come to what is wanted.
func checkPlay(t *testing.T, voters int, l []api.Turn, want []api.Outcome) {
	t.Helper()
	got, code := Play(voters, l)
	if code != api.OK || len(got) != len(want) {
		t.Fatalf("Play(%d, %s): %s, %d; want %s", voters, brief(l), brief(got), code, brief(want))
	}
	for i := range want {
		if got[i] != want[i] {
			t.Fatalf("Play(%d, %s): turn %d, %v: %v; want %v", voters, brief(l), i, l[i], got[i], want[i])
		}
	}
}

// plays: that turns come to what is written out here, which is what the model has, too.
func plays(t *testing.T, voters int, l []api.Turn, want ...api.Outcome) {
	t.Helper()
	if m := modelPlay(voters, l); !slices.Equal(m, want) {
		t.Fatalf("the model of %d, %s: %s; want %s", voters, brief(l), brief(m), brief(want))
	}
	checkPlay(t, voters, l, want)
}

// story: turns with what is wanted of each, and which letters there are, by names such as "asked 7 of 2": round 7's, to or from voter 2.
type story struct {
	*testing.T
	voters int
	names  []string
	l      []api.Turn
	want   []api.Outcome
}

func tell(t *testing.T, voters int) *story { return &story{T: t, voters: voters} }

// again: a story that begins as this one, and goes on by itself.
func (s *story) again() *story {
	return &story{s.T, s.voters, slices.Clone(s.names), slices.Clone(s.l), slices.Clone(s.want)}
}

// does: a turn is wanted to have a code, to decide (0: nothing), and to send these letters.
func (s *story) does(t api.Turn, code api.Errno, value int, letters ...string) *story {
	s.names = append(s.names, letters...)
	s.names = s.names[:min(len(s.names), 200)]
	s.l = append(s.l, t)
	s.want = append(s.want, api.Outcome{Code: code, Decided: value, Letters: len(s.names)})
	return s
}

func name(kind string, round, voter int) string { return fmt.Sprint(kind, " ", round, " of ", voter) }

// toEach: letters of a round to each voter.
func (s *story) toEach(kind string, round int) []string {
	var made []string
	for voter := 1; voter <= s.voters; voter++ {
		made = append(made, name(kind, round, voter))
	}
	return made
}

// number: that of a letter by its name.
func (s *story) number(kind string, round, voter int) int {
	s.Helper()
	who := slices.Index(s.names, name(kind, round, voter))
	if who < 0 {
		s.Fatalf("the story has no letter %s", name(kind, round, voter))
	}
	return who
}

// ask: a round begins.
func (s *story) ask(round, value int) *story {
	return s.does(ask(round, value), api.OK, 0, s.toEach("asked", round)...)
}

// halt: a round is stopped.
func (s *story) halt(round int) *story { return s.does(halt(round), api.OK, 0) }

// idle: letters of a round are handed, and nothing comes of it.
func (s *story) idle(kind string, round int, voters ...int) *story {
	s.Helper()
	for _, voter := range voters {
		s.does(hand(s.number(kind, round, voter)), api.OK, 0)
	}
	return s
}

// promise: voters are asked, and each sends its promise.
func (s *story) promise(round int, voters ...int) *story {
	s.Helper()
	for _, voter := range voters {
		s.does(hand(s.number("asked", round, voter)), api.OK, 0, name("promised", round, voter))
	}
	return s
}

// tells: a voter's promise comes, and the round tells its value.
func (s *story) tells(round, voter int) *story {
	s.Helper()
	return s.does(hand(s.number("promised", round, voter)), api.OK, 0, s.toEach("choose", round)...)
}

// chooses: voters are told a round's value, and choose it.
func (s *story) chooses(round int, voters ...int) *story {
	s.Helper()
	for _, voter := range voters {
		s.does(hand(s.number("choose", round, voter)), api.OK, 0, name("chosen", round, voter))
	}
	return s
}

// decides: a voter's chosen letter comes, and a value is decided.
func (s *story) decides(round, voter, value int) *story {
	s.Helper()
	return s.does(hand(s.number("chosen", round, voter)), api.OK, value)
}

// carried: a round for a value is asked of voters, who are just more than half, up to where it tells its value.
func (s *story) carried(round, value int, voters ...int) *story {
	s.Helper()
	last := len(voters) - 1
	return s.ask(round, value).promise(round, voters...).idle("promised", round, voters[:last]...).tells(round, voters[last])
}

// settled: voters, who are just more than half, choose what a round has told, which is decided when the last of them is heard.
func (s *story) settled(round, value int, voters ...int) *story {
	s.Helper()
	last := len(voters) - 1
	return s.chooses(round, voters...).idle("chosen", round, voters[:last]...).decides(round, voters[last], value)
}

func (s *story) end() {
	s.Helper()
	plays(s.T, s.voters, s.l, s.want...)
}

// oddTurn: one that is refused, or that has numbers that nobody asks.
func oddTurn(random *rand.Rand, letters int) api.Turn {
	return []api.Turn{
		{Kind: -1}, {Kind: 0, Round: 1, Value: 1}, {Kind: api.Halt + 1, Round: 1}, ask(0, 1), ask(1, 0), ask(api.MaxCount+1, 1), ask(3, api.MaxCount+1),
		hand(-1), hand(letters), lose(-1), lose(letters), halt(0), halt(-1), halt(api.MaxCount), {Kind: api.Halt, Who: 2, Round: 2, Value: -7},
	}[random.Intn(15)]
}

// randomTurns: so many of a ballot, most of which hand letters, and most of those the ones that were sent last; where rounds are few, they meet.
func randomTurns(random *rand.Rand, voters, rounds, n int) []api.Turn {
	m := &model{voters: voters}
	l := turns(ask(1+random.Intn(6), 1+random.Intn(9)))
	m.play(l[0])
	for len(l) < n {
		letters := len(m.letters)
		t := hand(random.Intn(letters))
		if random.Intn(3) > 0 {
			t.Who = letters - 1 - random.Intn(min(letters, 2*voters))
		}
		switch random.Intn(40) {
		case 0, 1, 2, 3:
			t = ask(1+random.Intn(rounds), 1+random.Intn(9))
		case 4:
			t.Kind = api.Lose
		case 5:
			t = halt(1 + random.Intn(rounds))
		case 6:
			t = oddTurn(random, letters)
		}
		m.play(t)
		l = append(l, t)
	}
	return l
}
