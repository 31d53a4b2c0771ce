package lex

import (
	"math"
	"regexp"
	"slices"
	"strconv"
	"strings"
	"testing"
	"unicode/utf8"

	"commonhold/api"
)

func word(s string) api.Token { return api.Token{Kind: api.Word, Text: s} }

func number(n int) api.Token { return api.Token{Kind: api.Number, Int: n} }

func quoted(s string) api.Token { return api.Token{Kind: api.Quote, Text: s} }

func mark(s string) api.Token { return api.Token{Kind: api.Mark, Text: s} }

func list(l ...api.Token) []api.Token { return l }

// of: so many times the same token.
func of(n int, t api.Token) []api.Token { return slices.Repeat(list(t), n) }

// times: so many times the same text.
func times(n int, s string) string { return strings.Repeat(s, n) }

// allMarks: as P6.1 names them.
func allMarks() []string { return strings.Fields("( ) , . * + - / % = < > <= >= <>") }

const (
	smallLetters = "abcdefghijklmnopqrstuvwxyz"
	bigLetters   = "ABCDEFGHIJKLMNOPQRSTUVWXYZ"
	digits       = "0123456789"
)

// broken: texts that are not UTF-8: a byte that is none, one that goes on with nothing, one that lacks the next, one that is written too long, half a pair, and one beyond all letters.
func broken() []string {
	return []string{"\xff", "\x80", "\xc3", "a\xc3", "\xc3a", "\xc0\x80", "\xed\xa0\x80", "\xf4\x90\x80\x80", "é\xe2\x82"}
}

func checkMay(t *testing.T, token api.Token, want bool) {
	t.Helper()
	if got := May(token); got != want {
		t.Errorf("May(%#v): %t", token, got)
	}
}

// P6.1
func TestMayWord(t *testing.T) {
	for _, s := range []string{"a", "_", "z", "_1", "a1", "a_b", "__", "select", "x0123456789_", times(api.MaxName, "a"), times(api.MaxName, "_"), "a" + times(api.MaxName-1, "9")} {
		checkMay(t, word(s), true)
	}
	for _, s := range []string{"", times(api.MaxName+1, "a"), times(api.MaxName+1, "_"), times(1000, "a"), "1", "1a", "9_", "A", "aB", "Select", "a b", " a", "a ", "a-b", "a.b", "a'", "é", "aé", "a\x00", "a\n", "a\xff", "<", "ſ", "K"} {
		checkMay(t, word(s), false)
	}
}

// P6.1: each byte as a Word's first one, and as a later one.
func TestMayWordBytes(t *testing.T) {
	for c := range 256 {
		b := string([]byte{byte(c)})
		first := strings.Contains(smallLetters+"_", b)
		later := first || strings.Contains(digits, b)
		checkMay(t, word(b), first)
		checkMay(t, word(b+"a"), first)
		checkMay(t, word("a"+b), later)
		checkMay(t, word("_"+b+"1"), later)
		checkMay(t, word(times(api.MaxName-1, "a")+b), later)
		checkMay(t, word(times(api.MaxName, "a")+b), false)
	}
}

// P6.1
func TestMayNumber(t *testing.T) {
	for _, n := range []int{0, 1, 9, 10, 1 << 31, 1 << 32, math.MaxInt64 - 1, math.MaxInt64} {
		checkMay(t, number(n), true)
	}
	for _, n := range []int{-1, -2, -1 << 31, -1 << 32, math.MinInt64 + 1, math.MinInt64} {
		checkMay(t, number(n), false)
	}
}

// P6.1
func TestMayQuote(t *testing.T) {
	for _, s := range []string{"", "a", "A", "1", "'", "''", "it's", " ", "\n", "\x00", "--", "é", "\u2028", "\U0010ffff", "\ufffd", times(api.MaxText, "a"), times(api.MaxText, "'"), times(api.MaxText/2, "é"), times(api.MaxText/4, "\U0001f600")} {
		checkMay(t, quoted(s), true)
	}
	for _, s := range []string{times(api.MaxText+1, "a"), times(api.MaxText+1, "'"), times(api.MaxText/2, "é") + "a", times(api.MaxText, "é"), times(1000, " ")} {
		checkMay(t, quoted(s), false)
	}
	for _, s := range broken() {
		checkMay(t, quoted(s), false)
		checkMay(t, quoted("a"+s+"b"), false)
		checkMay(t, quoted(times(api.MaxText, "a")+s), false)
	}
}

// P6.1: all texts of at most two bytes, and longer ones that begin or end with a Mark.
func TestMayMark(t *testing.T) {
	checkMay(t, mark(""), false)
	count := 0
	for c := range 1 << 16 {
		for _, s := range []string{string([]byte{byte(c)}), string([]byte{byte(c >> 8), byte(c)})} {
			if len(s) == 1 && c >= 256 {
				continue
			}
			is := slices.Contains(allMarks(), s)
			checkMay(t, mark(s), is)
			if is {
				count++
			}
		}
	}
	if count != 15 {
		t.Errorf("%d Marks were asked, not 15", count)
	}
	for _, m := range allMarks() {
		for _, other := range append(allMarks(), "a", " ", "'") {
			checkMay(t, mark(m+" "+other), false)
			checkMay(t, mark("<="+m+other), false)
			checkMay(t, mark(m+other+m), false)
		}
	}
}

// P6.1: what a Kind does not use is zero.
func TestMayUnusedFields(t *testing.T) {
	for _, n := range []int{1, -1, math.MaxInt64, math.MinInt64} {
		for _, token := range []api.Token{word("a"), quoted("a"), quoted(""), mark("<"), mark("<>")} {
			checkMay(t, token, true)
			token.Int = n
			checkMay(t, token, false)
		}
	}
	for _, s := range []string{"a", "7", " ", "\x00", "\xff", "<"} {
		checkMay(t, api.Token{Kind: api.Number, Int: 7, Text: s}, false)
		checkMay(t, api.Token{Kind: api.Number, Text: s}, false)
	}
}

// P6.1: there are no other Kinds, and what is one Kind's is not another's.
func TestMayKinds(t *testing.T) {
	for _, kind := range []int{0, -1, -2, -3, -4, 5, 6, 1 << 32, 1<<32 + 1, math.MaxInt64, math.MinInt64} {
		for _, token := range []api.Token{{}, word("a"), number(7), number(0), quoted("a"), mark("<")} {
			token.Kind = kind
			checkMay(t, token, false)
		}
	}
	checkMay(t, word("<"), false)
	checkMay(t, mark("a"), false)
	checkMay(t, mark("'"), false)
	checkMay(t, word(""), false)
	checkMay(t, mark(""), false)
	checkMay(t, number(0), true)
	checkMay(t, quoted(""), true)
}

func checkCut(t *testing.T, s string, want ...api.Token) {
	t.Helper()
	l, at, code := Cut(s)
	if !slices.Equal(l, want) || at != 0 || code != api.OK {
		t.Errorf("Cut(%q): %v, %d, %d; want %v", s, l, at, code, want)
	}
}

func cutRefuses(t *testing.T, s string, place int, want api.Errno) {
	t.Helper()
	if l, at, code := Cut(s); len(l) != 0 || at != place || code != want {
		t.Errorf("Cut(%q): %v, %d, %d; want nothing, %d, %d", s, l, at, code, place, want)
	}
}

// P6.2: blanks and remarks alone.
func TestCutNothing(t *testing.T) {
	for _, s := range []string{"", " ", "\t", "\n", "\r", " \t\r\n ", "--", "---", "----", "--\n", "--\n--", "-- a", "--a\n", " --'\n\t-- !\xff\x00\r\n \n--", "--a\rb", "--" + times(api.MaxSource-2, "-"), times(api.MaxSource, " "), times(api.MaxSource/3, "--\n")} {
		checkCut(t, s)
	}
}

// P6.2
func TestCutRemarks(t *testing.T) {
	a, b := word("a"), word("b")
	checkCut(t, "a--b", a)
	checkCut(t, "a--b\nb", a, b)
	checkCut(t, "a--\nb", a, b)
	checkCut(t, "--a\nb", b)
	checkCut(t, "--a\r\nb", b)
	checkCut(t, "a--x\n--y\n \n--z\nb--", a, b)
	checkCut(t, "a---b\nb", a, b)
	// A byte 13 ends no line, and neither do other bytes that do elsewhere.
	checkCut(t, "a--x\rb\n b", a, b)
	checkCut(t, "a--x\v\f\u0085\u2028b\nb", a, b)
	// What stands in a remark is nothing: no Quote, no remark's end, and nothing that is refused.
	checkCut(t, "a--'\nb", a, b)
	checkCut(t, "a--!\x00\xff"+times(100, "x")+"99999999999999999999\nb", a, b)
	// And in a Quote no remark begins.
	checkCut(t, "'a--b'", quoted("a--b"))
	checkCut(t, "'--\n'--'\nb", quoted("--\n"), b)
	checkCut(t, "1--2", number(1))
	checkCut(t, "<--2\n=", mark("<"), mark("="))
}

// P6.2: two - that something parts are Marks.
func TestCutMinus(t *testing.T) {
	minus := mark("-")
	checkCut(t, "-", minus)
	for _, between := range []string{" ", "\n", "\t", "\r", "  ", "\n--\n", " --x\n"} {
		checkCut(t, "-"+between+"-", minus, minus)
	}
	checkCut(t, "- --", minus)
	checkCut(t, "-a-", minus, word("a"), minus)
	checkCut(t, "-1", minus, number(1))
	checkCut(t, "(-)-(-)", mark("("), minus, mark(")"), minus, mark("("), minus, mark(")"))
	checkCut(t, "1-2", number(1), minus, number(2))
}

// P6.2: blanks are four bytes; no other byte that looks like one is.
func TestCutBlanks(t *testing.T) {
	for c := range 256 {
		s := "a" + string([]byte{byte(c)}) + "a"
		l, at, code := Cut(s)
		parts := slices.Equal(l, list(word("a"), word("a"))) && at == 0 && code == api.OK
		if blank := strings.Contains("\t\n\r ", s[1:2]); parts != blank {
			t.Errorf("Cut(%q): %v, %d, %d", s, l, at, code)
		}
	}
}

// P6.2: each token as long as it can be.
func TestCutLongest(t *testing.T) {
	checkCut(t, "<=", mark("<="))
	checkCut(t, "< =", mark("<"), mark("="))
	checkCut(t, "<>", mark("<>"))
	checkCut(t, "><", mark(">"), mark("<"))
	checkCut(t, "=<", mark("="), mark("<"))
	checkCut(t, "==", mark("="), mark("="))
	checkCut(t, "<<=", mark("<"), mark("<="))
	checkCut(t, "<=>=<>", mark("<="), mark(">="), mark("<>"))
	checkCut(t, "<>=", mark("<>"), mark("="))
	checkCut(t, ">>=>", mark(">"), mark(">="), mark(">"))
	checkCut(t, "a1", word("a1"))
	checkCut(t, "a12_b3", word("a12_b3"))
	checkCut(t, "_1", word("_1"))
	checkCut(t, "12ab", number(12), word("ab"))
	checkCut(t, "12_3", number(12), word("_3"))
	checkCut(t, "1e5", number(1), word("e5"))
	checkCut(t, "0x1f", number(0), word("x1f"))
	checkCut(t, "1.5", number(1), mark("."), number(5))
	checkCut(t, "a.b", word("a"), mark("."), word("b"))
	checkCut(t, "a'b'c", word("a"), quoted("b"), word("c"))
	checkCut(t, "1'b'2", number(1), quoted("b"), number(2))
	checkCut(t, "(a,b)*-c/d%e+f", mark("("), word("a"), mark(","), word("b"), mark(")"), mark("*"), mark("-"), word("c"), mark("/"), word("d"), mark("%"), word("e"), mark("+"), word("f"))
	full := times(api.MaxName, "w")
	checkCut(t, full, word(full))
	checkCut(t, "12"+full, number(12), word(full))
}

// P6.2: Marks one behind another, with and without something between.
func TestCutMarks(t *testing.T) {
	for _, m := range allMarks() {
		checkCut(t, m, mark(m))
		checkCut(t, "a"+m+"1", word("a"), mark(m), number(1))
		for _, other := range allMarks() {
			checkCut(t, m+" "+other, mark(m), mark(other))
		}
	}
	checkCut(t, strings.Join(allMarks(), "\n"), asMarks(allMarks())...)
}

func asMarks(l []string) []api.Token {
	var tokens []api.Token
	for _, m := range l {
		tokens = append(tokens, mark(m))
	}
	return tokens
}

// P6.2: capital letters become small ones, but not in quotes.
func TestCutCapitals(t *testing.T) {
	checkCut(t, "SELECT", word("select"))
	checkCut(t, "Select A_b9Z FROM t", word("select"), word("a_b9z"), word("from"), word("t"))
	checkCut(t, "A'A'A", word("a"), quoted("A"), word("a"))
	checkCut(t, "'"+bigLetters+"'", quoted(bigLetters))
	checkCut(t, "'ÄÉ'", quoted("ÄÉ"))
	for i := range bigLetters {
		checkCut(t, bigLetters[i:i+1], word(smallLetters[i:i+1]))
		checkCut(t, "_"+bigLetters[i:i+1], word("_"+smallLetters[i:i+1]))
	}
	full := times(api.MaxName, "Q")
	checkCut(t, full, word(strings.ToLower(full)))
}

// P6.2
func TestCutQuotes(t *testing.T) {
	checkCut(t, "''", quoted(""))
	checkCut(t, "''''", quoted("'"))
	checkCut(t, "''''''", quoted("''"))
	checkCut(t, "'' ''", quoted(""), quoted(""))
	checkCut(t, "'it''s'", quoted("it's"))
	checkCut(t, "'''a'", quoted("'a"))
	checkCut(t, "'a'''", quoted("a'"))
	checkCut(t, "'a''''b'", quoted("a''b"))
	checkCut(t, "'a' 'b'", quoted("a"), quoted("b"))
	checkCut(t, "'a'--'\n'b'", quoted("a"), quoted("b"))
	checkCut(t, "'a\nb\tc\rd '", quoted("a\nb\tc\rd "))
	checkCut(t, "'\x00!\"\\'", quoted("\x00!\"\\"))
	checkCut(t, `'a\''`+"b'", quoted(`a\'b`))
	checkCut(t, "'é€\U0010ffff'", quoted("é€\U0010ffff"))
	checkCut(t, "'12'12", quoted("12"), number(12))
	checkCut(t, "'<='<=", quoted("<="), mark("<="))
	for _, s := range []string{times(api.MaxText, "a"), times(api.MaxText, "'"), times(api.MaxText/2, "é"), times(api.MaxText-1, "a") + "'"} {
		checkCut(t, "'"+strings.ReplaceAll(s, "'", "''")+"'", quoted(s))
	}
}

// P6.2
func TestCutNumbers(t *testing.T) {
	const greatest, next = "9223372036854775807", "9223372036854775808"
	checkCut(t, "0", number(0))
	checkCut(t, "000", number(0))
	checkCut(t, "007", number(7))
	checkCut(t, digits, number(123456789))
	checkCut(t, "9223372036854775806", number(math.MaxInt64-1))
	for _, noughts := range []string{"", "0", "000", times(100, "0"), times(api.MaxSource-len(greatest), "0")} {
		checkCut(t, noughts+greatest, number(math.MaxInt64))
		cutRefuses(t, noughts+next, 0, api.ErrOver)
	}
	checkCut(t, times(api.MaxSource, "0"), number(0))
	for _, s := range []string{"9223372036854775809", "9999999999999999999", "10000000000000000000", "18446744073709551615", "18446744073709551616", "18446744073709551617", "92233720368547758070", times(api.MaxSource, "9")} {
		cutRefuses(t, s, 0, api.ErrOver)
	}
	cutRefuses(t, "-"+next, 1, api.ErrOver)
	cutRefuses(t, "a "+next+"b", 2, api.ErrOver)
}

// P6.2: bytes that begin no token, alone and behind others.
func TestCutFirstByte(t *testing.T) {
	begins := smallLetters + bigLetters + digits + "_'" + strings.Join(allMarks(), "") + "\t\n\r "
	for c := range 256 {
		s := string([]byte{byte(c)})
		if strings.Contains(begins, s) {
			continue
		}
		cutRefuses(t, s, 0, api.ErrForm)
		cutRefuses(t, s+"a", 0, api.ErrForm)
		cutRefuses(t, "a"+s, 1, api.ErrForm)
		cutRefuses(t, "12"+s, 2, api.ErrForm)
		cutRefuses(t, " \n--!\n'!'<="+s+"=", 11, api.ErrForm)
	}
	cutRefuses(t, "a != b", 2, api.ErrForm)
	cutRefuses(t, "aé", 1, api.ErrForm)
	cutRefuses(t, "a\u00a0b", 1, api.ErrForm)
	cutRefuses(t, "\ufeffa", 0, api.ErrForm)
}

// P6.2
func TestCutWordTooLong(t *testing.T) {
	over := times(api.MaxName+1, "a")
	for _, s := range []string{over, over + "a", strings.ToUpper(over), times(api.MaxName+1, "_"), over[1:] + "1", "_" + times(api.MaxName, "0"), times(api.MaxSource, "a")} {
		cutRefuses(t, s, 0, api.ErrSize)
	}
	cutRefuses(t, " 12"+over, 3, api.ErrSize)
	cutRefuses(t, over[1:]+" "+over, api.MaxName+1, api.ErrSize)
	// All of the Word is looked at, and nothing behind it.
	cutRefuses(t, "b "+over+"!", 2, api.ErrSize)
	cutRefuses(t, over[1:]+"!", api.MaxName, api.ErrForm)
}

// P6.2
func TestCutQuoteRefused(t *testing.T) {
	for _, s := range []string{"'", "'a", "'''", "'a''", "'''''", "'a\n", "'--", "'" + times(api.MaxSource-1, "a"), times(api.MaxSource-1, "'")} {
		cutRefuses(t, s, 0, api.ErrShort)
	}
	cutRefuses(t, "a '", 2, api.ErrShort)
	cutRefuses(t, "'a' 'b", 4, api.ErrShort)
	cutRefuses(t, "'a' b'", 5, api.ErrShort)
	cutRefuses(t, "''' ''", 0, api.ErrShort)
	over := times(api.MaxText+1, "a")
	for _, text := range []string{over, over + over, times(api.MaxText+1, "''"), times(api.MaxText, "a") + "''", times(api.MaxText/2, "é") + "a", times(api.MaxText/2+1, "é")} {
		cutRefuses(t, "'"+text+"'", 0, api.ErrSize)
		cutRefuses(t, "x '"+text+"'!", 2, api.ErrSize)
	}
	cutRefuses(t, "'"+times(api.MaxSource-2, "a")+"'", 0, api.ErrSize)
	for _, text := range broken() {
		cutRefuses(t, "'"+text+"'", 0, api.ErrForm)
		cutRefuses(t, "'' '"+text+"''é'!", 3, api.ErrForm)
	}
	// A letter that a ' parts is none.
	cutRefuses(t, "'\xc3''\xa9'", 0, api.ErrForm)
	cutRefuses(t, "'"+times(api.MaxText-1, "a")+"\xc3'", 0, api.ErrForm)
}

// P6.2: where several errors apply.
func TestCutFirstError(t *testing.T) {
	over := times(api.MaxText+1, "a")
	for _, text := range broken() {
		// Of one Quote: that it ends too early is first, then that it is too long.
		cutRefuses(t, "'"+text, 0, api.ErrShort)
		cutRefuses(t, "'"+over, 0, api.ErrShort)
		cutRefuses(t, "'"+text+over, 0, api.ErrShort)
		cutRefuses(t, "'"+text+over+"''", 0, api.ErrShort)
		cutRefuses(t, "'"+text+over+"'", 0, api.ErrSize)
		cutRefuses(t, "'"+over+text+"'", 0, api.ErrSize)
	}
	// Of several tokens: what is wrong with the first one.
	wrong := map[string]api.Errno{
		"!": api.ErrForm, times(api.MaxName+1, "w"): api.ErrSize, times(20, "9"): api.ErrOver,
		"'" + over + "'": api.ErrSize, "'\xff'": api.ErrForm,
	}
	for first, want := range wrong {
		for second := range wrong {
			cutRefuses(t, "a, "+first+" "+second, 3, want)
		}
		cutRefuses(t, "a, "+first+" 'b", 3, want)
	}
	// A Quote without an end takes all that is behind it.
	cutRefuses(t, "a '! "+over+" 99999999999999999999", 2, api.ErrShort)
}

// P6.2
func TestCutMaxSource(t *testing.T) {
	blanks := times(api.MaxSource, " ")
	checkCut(t, blanks)
	checkCut(t, blanks[1:]+"a", word("a"))
	checkCut(t, "a"+blanks[1:], word("a"))
	cutRefuses(t, blanks[1:]+"!", api.MaxSource-1, api.ErrForm)
	cutRefuses(t, blanks[1:]+"'", api.MaxSource-1, api.ErrShort)
	// Too long is told ahead of all else, at place 0.
	for _, s := range []string{blanks + " ", blanks + "a", "a" + blanks, blanks + "!", "!" + blanks, "a!" + blanks, "'" + blanks, " '\xff'" + blanks, times(api.MaxSource+1, "a"), times(api.MaxSource+1, "9"), times(api.MaxSource+1, "("), times(api.MaxSource+1, "-"), times(api.MaxSource+1, "\xff"), times(1<<20, "a "), times(1<<20, "'")} {
		cutRefuses(t, s, 0, api.ErrSize)
	}
}

// P6.2
func TestCutMaxTokens(t *testing.T) {
	for _, one := range []string{"a ", "(", "1,", "'' ", "<=", "a--\n"} {
		each, _, _ := Cut(one)
		count := api.MaxTokens / len(each)
		full := times(count, one)
		want := slices.Repeat(each, count)
		checkCut(t, full, want...)
		for _, behind := range []string{" ", "\n\t\r", "--", "--a b !", "--a\n ", " --'\n--\xff\n"} {
			checkCut(t, full+behind, want...)
			// Whatever comes behind MaxTokens tokens is refused for it, at its own place.
			for _, next := range []string{"a", "1", "''", ".", "!", "\xff", "\x00", "'", "'\xff'", times(api.MaxName+1, "a"), times(20, "9"), "'" + times(api.MaxText+1, "a") + "'", "a b", "a !"} {
				cutRefuses(t, full+"\n"+next, len(full)+1, api.ErrFull)
				if strings.HasSuffix(behind, " ") || strings.HasSuffix(behind, "\n") {
					cutRefuses(t, full+behind+next, len(full)+len(behind), api.ErrFull)
				}
			}
		}
		// What is wrong with one of them is told as ever.
		cutRefuses(t, times(count-1, one)+"!", len(full)-len(one), api.ErrForm)
		cutRefuses(t, times(count-1, one)+"! ! ! !", len(full)-len(one), api.ErrForm)
	}
	checkCut(t, times(api.MaxTokens-1, "("), of(api.MaxTokens-1, mark("("))...)
	cutRefuses(t, times(api.MaxSource, "("), api.MaxTokens, api.ErrFull)
	cutRefuses(t, "!"+times(api.MaxSource-1, "("), 0, api.ErrForm)
}

// What P6.2 says of blanks, remarks and tokens, in the words of another language.
var (
	gaps     = longest(`^(?:[\t\n\r ]|--[^\n]*)*`)
	words    = longest(`^[A-Za-z_][A-Za-z_0-9]*`)
	numbers  = longest(`^[0-9]+`)
	quotes   = longest(`^('(?:[^']|'')*')(?:[^']|$)`)
	anyMarks = longest(`^(?:[(),.*+\-/%=<>]|<=|>=|<>)`)
)

func longest(s string) *regexp.Regexp {
	r := regexp.MustCompile(s)
	r.Longest()
	return r
}

// oneByTheWords: the first token of a text, and its bytes.
func oneByTheWords(s string) (api.Token, int, api.Errno) {
	if w := words.FindString(s); len(w) > api.MaxName {
		return api.Token{}, 0, api.ErrSize
	} else if w != "" {
		return word(strings.ToLower(w)), len(w), api.OK
	}
	if n := numbers.FindString(s); n != "" {
		i, err := strconv.Atoi(n)
		if err != nil {
			return api.Token{}, 0, api.ErrOver
		}
		return number(i), len(n), api.OK
	}
	if s[0] == '\'' {
		return quoteByTheWords(s)
	}
	if m := anyMarks.FindString(s); m != "" {
		return mark(m), len(m), api.OK
	}
	return api.Token{}, 0, api.ErrForm
}

func quoteByTheWords(s string) (api.Token, int, api.Errno) {
	found := quotes.FindStringSubmatch(s)
	if found == nil {
		return api.Token{}, 0, api.ErrShort
	}
	whole := found[1]
	text := strings.ReplaceAll(whole[1:len(whole)-1], "''", "'")
	if len(text) > api.MaxText {
		return api.Token{}, 0, api.ErrSize
	}
	if !utf8.ValidString(text) {
		return api.Token{}, 0, api.ErrForm
	}
	return quoted(text), len(whole), api.OK
}

// byTheWords: Cut as P6.2 says it, of a source that is not too long.
func byTheWords(s string) ([]api.Token, int, api.Errno) {
	var l []api.Token
	rest := s
	for {
		rest = rest[len(gaps.FindString(rest)):]
		at := len(s) - len(rest)
		if rest == "" {
			return l, 0, api.OK
		}
		if len(l) >= api.MaxTokens {
			return nil, at, api.ErrFull
		}
		token, size, code := oneByTheWords(rest)
		if code != api.OK {
			return nil, at, code
		}
		l = append(l, token)
		rest = rest[size:]
	}
}

func checkByTheWords(t *testing.T, s string) {
	t.Helper()
	want, place, wantCode := byTheWords(s)
	l, at, code := Cut(s)
	if !slices.Equal(l, want) || at != place || code != wantCode {
		t.Fatalf("Cut(%q): %v, %d, %d; want %v, %d, %d", s, l, at, code, want, place, wantCode)
	}
	for _, token := range l {
		if !May(token) {
			t.Fatalf("Cut(%q): %#v may not be", s, token)
		}
	}
}

// eachOf calls f with all texts of so many parts.
func eachOf(parts []string, n int, f func(s string)) {
	if n == 0 {
		f("")
		return
	}
	eachOf(parts, n-1, func(s string) {
		for _, p := range parts {
			f(s + p)
		}
	})
}

// P6.2: all short sources of the telling bytes.
func TestCutIsWhatTheWordsSay(t *testing.T) {
	for n := range 5 {
		eachOf(strings.Split("a|Z|_|7|'|-|<|>|=| |\n|!|\xff|(", "|"), n, func(s string) { checkByTheWords(t, s) })
	}
	for n := range 8 {
		eachOf([]string{"a", "'", "-", "\n"}, n, func(s string) { checkByTheWords(t, s) })
	}
	for n := range 6 {
		eachOf([]string{"<", ">", "=", "-", " "}, n, func(s string) { checkByTheWords(t, s) })
	}
}

// dice: numbers that do not soon come again, the same ones each time.
type dice uint64

func (d *dice) upTo(n int) int {
	*d = *d*6364136223846793005 + 1442695040888963407
	return int(uint64(*d)>>33) % n
}

func (d *dice) pick(l []string) string { return l[d.upTo(len(l))] }

// P6.2: long sources of pieces of each sort, of which some run into each other.
func TestCutLongSources(t *testing.T) {
	pieces := append(allMarks(), " ", "\n", " ", "\t", "\r", "--", "-- x\n", "a", "Z", "_", "9", "007", "select", "abcdef", "9223372036854775807", "''", "'a'", "'it''s'", "'", "'é'", "'"+times(20, "''")+"'", "\n--'\n")
	d := dice(1)
	for i := range 3000 {
		l := pieces
		// Without a lone ' sources come farther.
		if i%2 == 0 {
			l = slices.DeleteFunc(slices.Clone(pieces), func(p string) bool { return p == "'" })
		}
		s := ""
		for range d.upTo(500) {
			s += d.pick(l)
			if d.upTo(3) > 0 {
				s += " "
			}
		}
		checkByTheWords(t, s[:min(len(s), api.MaxSource)])
	}
}

func checkJoin(t *testing.T, l []api.Token, want string) {
	t.Helper()
	if s, code := Join(l); s != want || code != api.OK {
		t.Errorf("Join(%v): %q, %d; want %q", l, s, code, want)
	}
}

func joinRefuses(t *testing.T, l []api.Token, want api.Errno) {
	t.Helper()
	if s, code := Join(l); s != "" || code != want {
		t.Errorf("Join(%v): %q, %d; want nothing, %d", l, s, code, want)
	}
}

// P6.3
func TestJoin(t *testing.T) {
	checkJoin(t, nil, "")
	checkJoin(t, list(), "")
	checkJoin(t, list(word("a")), "a")
	checkJoin(t, list(number(0)), "0")
	checkJoin(t, list(number(math.MaxInt64)), "9223372036854775807")
	checkJoin(t, list(quoted("")), "''")
	checkJoin(t, list(quoted("'")), "''''")
	checkJoin(t, list(quoted("it's ''--\n")), "'it''s ''''--\n'")
	checkJoin(t, list(quoted("Äé")), "'Äé'")
	for _, m := range allMarks() {
		checkJoin(t, list(mark(m)), m)
	}
	checkJoin(t, list(word("a"), word("b")), "a b")
	checkJoin(t, list(mark("-"), mark("-")), "- -")
	checkJoin(t, list(mark("<"), mark("=")), "< =")
	checkJoin(t, list(quoted("a"), quoted("b")), "'a' 'b'")
	checkJoin(t, list(number(1), word("a"), mark("."), number(2)), "1 a . 2")
	checkJoin(t, asMarks(allMarks()), "( ) , . * + - / % = < > <= >= <>")
}

// P6.3
func TestJoinMaxTokens(t *testing.T) {
	for _, token := range []api.Token{word("a"), number(7), quoted(""), mark("<=")} {
		one, _ := Join(list(token))
		full := times(api.MaxTokens-1, one+" ") + one
		checkJoin(t, of(api.MaxTokens, token), full)
		checkJoin(t, of(api.MaxTokens-1, token), full[len(one)+1:])
		joinRefuses(t, of(api.MaxTokens+1, token), api.ErrFull)
		joinRefuses(t, of(1<<16, token), api.ErrFull)
	}
}

// wrongTokens: such as may not be.
func wrongTokens() []api.Token {
	return []api.Token{
		{}, {Kind: -1}, {Kind: 5, Text: "a"}, word(""), word("A"), word("1a"), word("a b"), word(times(api.MaxName+1, "a")),
		number(-1), number(math.MinInt64), {Kind: api.Number, Text: "1"}, quoted("\xff"), quoted(times(api.MaxText+1, "a")),
		{Kind: api.Quote, Int: 1}, mark(""), mark("=="), mark("--"), {Kind: api.Mark, Int: 1, Text: "<"},
	}
}

// long: tokens whose source has so many bytes.
func long(size int) []api.Token {
	// Each has 40 bytes with the blank behind it; the last one has none, and takes what is left.
	l := of((size-2)/40, quoted(times(37, "b")))
	return append(l, quoted(times(size-40*len(l)-2, "c")))
}

// P6.3
func TestJoinMaxSource(t *testing.T) {
	for _, size := range []int{api.MaxSource - 1, api.MaxSource} {
		l := long(size)
		if s, code := Join(l); len(s) != size || code != api.OK {
			t.Errorf("Join of a source of %d bytes: %d bytes, %d", size, len(s), code)
		}
	}
	full := long(api.MaxSource)
	joinRefuses(t, long(api.MaxSource+1), api.ErrSize)
	joinRefuses(t, append(full, mark("(")), api.ErrSize)
	joinRefuses(t, of(api.MaxTokens, quoted(times(api.MaxText, "'"))), api.ErrSize)
	joinRefuses(t, of(api.MaxTokens, number(math.MaxInt64)), api.ErrSize)
	// A ' counts as it is written: twice.
	last := full[len(full)-1]
	last.Text = "'" + last.Text[1:]
	joinRefuses(t, append(slices.Clone(full[:len(full)-1]), last), api.ErrSize)
	last.Text = "'" + last.Text[2:]
	if s, code := Join(append(slices.Clone(full[:len(full)-1]), last)); len(s) != api.MaxSource || code != api.OK {
		t.Errorf("Join with a quote in a text: %d bytes, %d", len(s), code)
	}
}

// P6.3: which error is told where several apply.
func TestJoinRefuses(t *testing.T) {
	for _, bad := range wrongTokens() {
		checkMay(t, bad, false)
		joinRefuses(t, list(bad), api.ErrForm)
		joinRefuses(t, list(bad, word("a")), api.ErrForm)
		joinRefuses(t, list(word("a"), bad), api.ErrForm)
		joinRefuses(t, list(word("a"), bad, mark("(")), api.ErrForm)
		joinRefuses(t, append(of(api.MaxTokens-1, word("a")), bad), api.ErrForm)
		// Too many is told first; one that may not be ahead of a source that is too long, wherever it stands.
		joinRefuses(t, of(api.MaxTokens+1, bad), api.ErrFull)
		joinRefuses(t, append(of(api.MaxTokens, word("a")), bad), api.ErrFull)
		joinRefuses(t, append(list(bad), long(api.MaxSource+1)...), api.ErrForm)
		joinRefuses(t, append(long(api.MaxSource+1), bad), api.ErrForm)
		joinRefuses(t, append(of(api.MaxTokens-1, quoted(times(api.MaxText, "'"))), bad), api.ErrForm)
	}
	joinRefuses(t, of(api.MaxTokens+1, quoted(times(api.MaxText, "a"))), api.ErrFull)
}

// goodTokens: such as may be, of each sort.
func goodTokens() []api.Token {
	l := asMarks(allMarks())
	for _, s := range []string{"a", "_", "z9", "select", times(api.MaxName, "a"), times(api.MaxName, "_")} {
		l = append(l, word(s))
	}
	for _, n := range []int{0, 1, 10, 123, math.MaxInt64} {
		l = append(l, number(n))
	}
	for _, s := range []string{"", "a", "A", "'", "''", "it's", "--", "- -", "\n", "\x00", " ", "é", "12", "<=", times(api.MaxText, "a"), times(api.MaxText, "'"), times(api.MaxText/2, "é")} {
		l = append(l, quoted(s))
	}
	return l
}

// somes: lists of tokens that can be joined: of none, of one, of each two, and of many.
func somes() [][]api.Token {
	good := goodTokens()
	l := [][]api.Token{nil, of(api.MaxTokens, mark("-")), of(api.MaxTokens, quoted("'"))}
	for _, a := range good {
		l = append(l, list(a))
		for _, b := range good {
			l = append(l, list(a, b))
		}
	}
	d := dice(2)
	for range 1000 {
		var some []api.Token
		for range d.upTo(40) {
			some = append(some, good[d.upTo(len(good))])
		}
		l = append(l, some)
	}
	return l
}

// What comes of it: what was joined is cut as it was.
func TestJoinedIsCut(t *testing.T) {
	for _, l := range somes() {
		s, code := Join(l)
		if code != api.OK {
			t.Fatalf("Join(%v): %q, %d", l, s, code)
		}
		checkCut(t, s, l...)
	}
}

// What comes of it: blanks and remarks between tokens, ahead of them and behind them do not matter.
func TestWhatStandsBetween(t *testing.T) {
	gap := []string{" ", "\t", "\n", "\r", "  ", "\r\n", "--\n", "-- a 'b\n", " --!\xff\n\t", "--\n--\n", "\n---\n "}
	d := dice(3)
	for _, l := range somes() {
		s := d.pick(append(gap, ""))
		for _, token := range l {
			one, _ := Join(list(token))
			s += one
			// Right behind a -, the first two of three - would begin the remark.
			if one == "-" {
				s += " "
			}
			s += d.pick(gap)
		}
		s += d.pick(append(gap, "", "--", "--'", "-- \xff"))
		if len(s) <= api.MaxSource {
			checkCut(t, s, l...)
		}
	}
}

// P6.1, P6.2, P6.3: what is handed in stays, spare room too; what comes out is new each time; nothing is kept.
func TestShareNothing(t *testing.T) {
	odd := api.Token{Kind: 77, Int: 78, Text: "odd"}
	for _, l := range somes() {
		given := append(slices.Clone(l), odd, odd)
		s, code := Join(given[:len(l)])
		if !slices.Equal(given, append(slices.Clone(l), odd, odd)) {
			t.Fatalf("Join changes what it is handed: %v", l)
		}
		first, _, _ := Cut(s)
		second, _, _ := Cut(s)
		spoil(first)
		if !slices.Equal(second, l) {
			t.Fatalf("two answers of Cut(%q) share memory", s)
		}
		spoil(given)
		if again, codeAgain := Join(l); again != s || codeAgain != code {
			t.Fatalf("Join(%v): %q, then %q", l, s, again)
		}
		checkCut(t, s, l...)
	}
}

// spoil writes over all of an answer's memory.
func spoil(l []api.Token) {
	l = l[:cap(l)]
	for i := range l {
		l[i] = api.Token{Kind: -7, Int: -8, Text: "spoilt"}
	}
}
