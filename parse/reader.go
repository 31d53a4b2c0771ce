package parse

import (
	"slices"

	"commonhold/api"
)

// reader goes over tokens, all of which may be. Where it refuses it stays, and finds nothing any more: whoever still reads comes to an end by that, and what was read is of no use.
type reader struct {
	tokens  []api.Token
	at      int
	refused bool
}

func (r *reader) refuse() {
	r.refused = true
}

// end refuses a token that is left.
func (r *reader) end() {
	if r.at < len(r.tokens) {
		r.refuse()
	}
}

// next: the token that is read next; where there is none, one of no Kind.
func (r *reader) next() api.Token {
	if r.refused || r.at == len(r.tokens) {
		return api.Token{}
	}
	return r.tokens[r.at]
}

// anyOf reads a token that is one of these Words and Marks, and gives its text; "": the next one is none of them.
func (r *reader) anyOf(words ...string) string {
	t := r.next()
	// A Quote may have the text of a Word or a Mark, and is neither.
	if t.Kind != api.Word && t.Kind != api.Mark || !slices.Contains(words, t.Text) {
		return ""
	}
	r.at++
	return t.Text
}

// oneOf is anyOf where one of them has to stand.
func (r *reader) oneOf(words ...string) string {
	w := r.anyOf(words...)
	if w == "" {
		r.refuse()
	}
	return w
}

// need reads these Words and Marks, which have to stand there, one behind the other.
func (r *reader) need(words ...string) {
	for _, w := range words {
		r.oneOf(w)
	}
}

// may tells whether a part that begins with this Word or Mark stands there, and reads it and what has to stand behind it.
func (r *reader) may(first string, behind ...string) bool {
	if r.anyOf(first) == "" {
		return false
	}
	r.need(behind...)
	return true
}

func (r *reader) name() string {
	t := r.next()
	if !isName(t) {
		r.refuse()
		return ""
	}
	r.at++
	return t.Text
}

func (r *reader) number() int {
	t := r.next()
	if t.Kind != api.Number {
		r.refuse()
		return 0
	}
	r.at++
	return t.Int
}

func isName(t api.Token) bool {
	return t.Kind == api.Word && !Kept(t.Text)
}

// comma reads the , that parts two of a list, and tells whether it stands there.
func (r *reader) comma() bool {
	return r.may(",")
}

// list reads one thing and, as long as there are more, another one.
func list[T any](one func() T, more func() bool) []T {
	l := []T{one()}
	for more() {
		l = append(l, one())
	}
	return l
}
