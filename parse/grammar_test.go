package parse

import (
	"math"
	"slices"
	"strings"
	"testing"

	"commonhold/api"
)

// grammar: P7.2, to the letter.
const grammar = `
statement = "create" "table" NAME "(" column { "," column } "," "primary" "key" names ")"
          | "create" "index" NAME "on" NAME names
          | "insert" "into" NAME "values" "(" exprs ")"
          | "update" NAME "set" set { "," set } [ "where" expr ]
          | "delete" "from" NAME [ "where" expr ]
          | "select" ( "*" | exprs ) "from" NAME [ "join" NAME "on" expr ] [ "where" expr ]
            [ "group" "by" column-of { "," column-of } ] [ "order" "by" order { "," order } ] [ "limit" NUMBER ]
column    = NAME ( "truth" | "int" | "text" ) [ "not" "null" ]
names     = "(" NAME { "," NAME } ")"
exprs     = expr { "," expr }
set       = NAME "=" expr
order     = NUMBER [ "desc" ]
column-of = NAME [ "." NAME ]
expr      = both { "or" both }
both      = no { "and" no }
no        = "not" no | test
test      = sum [ ( "=" | "<>" | "<" | "<=" | ">" | ">=" ) sum | "is" [ "not" ] "null" ]
sum       = times { ( "+" | "-" ) times }
times     = minus { ( "*" | "/" | "%" ) minus }
minus     = "-" minus | one
one       = NUMBER | QUOTE | "null" | "true" | "false" | column-of | "(" expr ")"
          | "count" "(" ( "*" | expr ) ")" | ( "sum" | "min" | "max" ) "(" expr ")"
`

// Sorts of nodes of the grammar.
const (
	oneToken = iota
	ofRule
	inRow
	either
	anyTimes
	onceOrNot
)

type node struct {
	sort int
	text string
	kids []*node
}

// rulesOf: the grammar's rules by their names.
func rulesOf(text string) map[string]*node {
	l := strings.Fields(text)
	rules := map[string]*node{}
	for len(l) > 0 {
		name := l[0]
		rules[name], l = eitherOf(l[2:])
	}
	return rules
}

// eitherOf reads what | parts, up to what closes it or to the next rule.
func eitherOf(l []string) (*node, []string) {
	n := &node{sort: either, kids: []*node{{sort: inRow}}}
	for len(l) > 0 && !slices.Contains([]string{")", "]", "}"}, l[0]) && (len(l) == 1 || l[1] != "=") {
		last := n.kids[len(n.kids)-1]
		var kid *node
		switch first := l[0]; first {
		case "|":
			n.kids = append(n.kids, &node{sort: inRow})
			l = l[1:]
			continue
		case "(", "[", "{":
			kid, l = eitherOf(l[1:])
			if sort := map[string]int{"[": onceOrNot, "{": anyTimes}[first]; sort != 0 {
				kid = &node{sort: sort, kids: []*node{kid}}
			}
		default:
			kid = leafOf(first)
		}
		l = l[1:]
		last.kids = append(last.kids, kid)
	}
	return n, l
}

func leafOf(s string) *node {
	if s[0] == '"' || strings.ToUpper(s) == s {
		return &node{sort: oneToken, text: s}
	}
	return &node{sort: ofRule, text: s}
}

var kept = keptWords()

// isOf: whether a token is what the grammar writes so.
func isOf(token api.Token, s string) bool {
	switch s {
	case "NAME":
		return token.Kind == api.Word && !slices.Contains(kept, token.Text)
	case "NUMBER":
		return token.Kind == api.Number
	case "QUOTE":
		return token.Kind == api.Quote
	}
	return (token.Kind == api.Word || token.Kind == api.Mark) && `"`+token.Text+`"` == s
}

// matcher tries all ways through the grammar. far: the longest beginning that some way has gone over, so that some statement begins with it.
type matcher struct {
	rules  map[string]*node
	tokens []api.Token
	far    int
	known  map[matched][]int
}

type matched struct {
	n  *node
	at int
}

// ends: where what a node is may end that begins at a place.
func (m *matcher) ends(n *node, at int) []int {
	if l, ok := m.known[matched{n, at}]; ok {
		return l
	}
	l := m.look(n, at)
	slices.Sort(l)
	l = slices.Compact(l)
	m.known[matched{n, at}] = l
	return l
}

func (m *matcher) look(n *node, at int) []int {
	m.far = max(m.far, at)
	var l []int
	switch n.sort {
	case oneToken:
		if at < len(m.tokens) && isOf(m.tokens[at], n.text) {
			m.far = max(m.far, at+1)
			l = []int{at + 1}
		}
	case ofRule:
		l = slices.Clone(m.ends(m.rules[n.text], at))
	case either:
		for _, kid := range n.kids {
			l = append(l, m.ends(kid, at)...)
		}
	case inRow:
		l = []int{at}
		for _, kid := range n.kids {
			l = m.behind(l, kid)
		}
	case onceOrNot:
		l = append([]int{at}, m.ends(n.kids[0], at)...)
	case anyTimes:
		l = []int{at}
		for next := l; len(next) > 0; l = append(l, next...) {
			next = m.behind(next, n.kids[0])
		}
	}
	return l
}

// behind: where what a node is may end that begins at one of the places.
func (m *matcher) behind(places []int, n *node) []int {
	var l []int
	for _, at := range places {
		l = append(l, m.ends(n, at)...)
	}
	slices.Sort(l)
	return slices.Compact(l)
}

// byTheGrammar: the place and the error of Parse as P7.3 says them, of tokens that may be and are not too many.
func byTheGrammar(rules map[string]*node, l []api.Token) (int, api.Errno) {
	m := matcher{rules: rules, tokens: l, known: map[matched][]int{}}
	ends := m.ends(rules["statement"], 0)
	switch {
	case slices.Contains(ends, len(l)):
		return 0, api.OK
	case m.far < len(l):
		return m.far, api.ErrForm
	}
	return len(l), api.ErrShort
}

func checkByTheGrammar(t *testing.T, rules map[string]*node, l []api.Token) {
	t.Helper()
	place, want := byTheGrammar(rules, l)
	s, at, code := Parse(l)
	if at != place || code != want {
		t.Fatalf("Parse(%s): %d, %d; want %d, %d", told(l), at, code, place, want)
	}
	if (code != api.OK) != same(s, api.Statement{}) {
		t.Fatalf("Parse(%s): %+v with %d", told(l), s, code)
	}
}

// vocabulary: a token of each sort that the grammar tells apart.
func vocabulary() []api.Token {
	l := []api.Token{word("a"), word("b"), word("selects"), number(0), number(7), quoted(""), quoted("select"), quoted("(")}
	for _, w := range kept {
		l = append(l, word(w))
	}
	for _, m := range strings.Fields("( ) , . * + - / % = < > <= >= <>") {
		l = append(l, mark(m))
	}
	return l
}

// P7.2, P7.3: all short lists of tokens.
func TestShortLists(t *testing.T) {
	rules := rulesOf(grammar)
	some := vocabulary()
	checkByTheGrammar(t, rules, nil)
	for _, a := range some {
		checkByTheGrammar(t, rules, []api.Token{a})
		for _, b := range some {
			checkByTheGrammar(t, rules, []api.Token{a, b})
			place, code := byTheGrammar(rules, []api.Token{a, b})
			for _, c := range some {
				// What is refused stays so, whatever stands behind it.
				if code == api.ErrForm {
					parseRefuses(t, []api.Token{a, b, c}, place, code)
					continue
				}
				checkByTheGrammar(t, rules, []api.Token{a, b, c})
			}
		}
	}
}

// P7.2, P7.3: of each statement all beginnings, with each token behind them, and each one lost or put between.
func TestEachToken(t *testing.T) {
	rules := rulesOf(grammar)
	for _, s := range samples() {
		l := cut(t, s)
		for i := range len(l) + 1 {
			checkByTheGrammar(t, rules, l[:i])
			if i < len(l) {
				checkByTheGrammar(t, rules, slices.Delete(slices.Clone(l), i, i+1))
			}
			for _, token := range vocabulary() {
				checkByTheGrammar(t, rules, append(slices.Clone(l[:i]), token))
				checkByTheGrammar(t, rules, slices.Insert(slices.Clone(l), i, token))
				if i < len(l) {
					checkByTheGrammar(t, rules, slices.Replace(slices.Clone(l), i, i+1, token))
				}
			}
		}
	}
}

// dice: numbers that do not soon come again, the same ones each time.
type dice uint64

func (d *dice) upTo(n int) int {
	*d = *d*6364136223846793005 + 1442695040888963407
	return int(uint64(*d)>>33) % n
}

// thrower throws statements together, as the grammar has them.
type thrower struct {
	dice
	rules map[string]*node
	l     []api.Token
	room  int
}

func (w *thrower) put(n *node) {
	full := len(w.l) >= w.room
	switch n.sort {
	case oneToken:
		w.l = append(w.l, w.token(n.text))
	case ofRule:
		w.put(w.rules[n.text])
	case either:
		kid := n.kids[w.upTo(len(n.kids))]
		if full {
			kid = n.kids[len(n.kids)-1]
			if first := n.kids[0].kids[0]; first.text == "NUMBER" {
				kid = n.kids[0]
			}
		}
		w.put(kid)
	case inRow:
		for _, kid := range n.kids {
			w.put(kid)
		}
	case onceOrNot:
		if !full && w.upTo(2) == 0 {
			w.put(n.kids[0])
		}
	case anyTimes:
		for len(w.l) < w.room && w.upTo(4) == 0 {
			w.put(n.kids[0])
		}
	}
}

func (w *thrower) token(s string) api.Token {
	switch s {
	case "NAME":
		return word([]string{"a", "b", "t", "_", "ands", "x9", "twelve_bytes"}[w.upTo(7)])
	case "NUMBER":
		return number([]int{0, 1, 7, math.MaxInt64}[w.upTo(4)])
	case "QUOTE":
		return quoted([]string{"", "a", "select", ")", "it's", "é"}[w.upTo(6)])
	}
	text := strings.Trim(s, `"`)
	if text[0] >= 'a' && text[0] <= 'z' {
		return word(text)
	}
	return mark(text)
}

func (w *thrower) statement(room int) []api.Token {
	w.l, w.room = nil, room
	w.put(w.rules["statement"])
	return w.l
}

// P7.2, P7.3: statements thrown together, whole, cut off, and with tokens lost, put between and taken for others.
func TestThrownStatements(t *testing.T) {
	w := thrower{dice: 1, rules: rulesOf(grammar)}
	some := vocabulary()
	for i := range 500 {
		l := w.statement(3 + i%100)
		if len(l) > api.MaxTokens {
			t.Fatalf("%d tokens were thrown together", len(l))
		}
		if _, code := byTheGrammar(w.rules, l); code != api.OK {
			t.Fatalf("thrown together, but no statement: %s", told(l))
		}
		checkByTheGrammar(t, w.rules, l)
		for range 5 {
			at := w.upTo(len(l))
			token := some[w.upTo(len(some))]
			checkByTheGrammar(t, w.rules, l[:at])
			checkByTheGrammar(t, w.rules, slices.Delete(slices.Clone(l), at, at+1))
			checkByTheGrammar(t, w.rules, slices.Insert(slices.Clone(l), at, token))
			checkByTheGrammar(t, w.rules, slices.Insert(slices.Clone(l), at, l[w.upTo(len(l))]))
			checkByTheGrammar(t, w.rules, slices.Replace(slices.Clone(l), at, at+1, token))
			checkByTheGrammar(t, w.rules, append(slices.Clone(l), token))
		}
	}
}
