package exec

import (
	"bytes"
	"fmt"
	"math/rand"
	"slices"
	"strings"
	"testing"

	"commonhold/api"
	"commonhold/bind"
	"commonhold/eval"
	"commonhold/plan"
	"commonhold/rel"
	"commonhold/row"
)

// inside: whether a key lies in a Range.
func inside(key []byte, r api.Range) bool {
	return bytes.Compare(r.Low, key) <= 0 && bytes.Compare(key, r.High) < 0
}

// model: what a statement is to come to, told by the rows themselves, which stand in the order of their keys.
type model struct {
	l     []api.Table
	rows  stock
	b     api.Bound
	reads []api.Range
}

// wanted: the answer that Run is to give.
func wanted(l []api.Table, rows stock, s api.Statement) api.Answer {
	b, code := bind.Bind(l, s)
	if code != api.OK {
		return api.Answer{Code: code}
	}
	m := &model{l: l, rows: rows, b: b}
	a := m.answer()
	if a.Code != api.OK {
		a = api.Answer{Code: a.Code}
	}
	a.Reads = m.reads
	return a
}

func (m *model) answer() api.Answer {
	if m.b.Kind == api.Insert {
		return m.inserts()
	}
	kept, code := m.keeps(m.reading())
	switch {
	case code != api.OK:
		return api.Answer{Code: code}
	case m.b.Kind == api.Select:
		return m.selects(kept)
	}
	return m.changes(kept)
}

func (m *model) inserts() api.Answer {
	made, code := rel.Project([][]api.Value{{}}, m.b.Values)
	if code != api.OK {
		return api.Answer{Code: code}
	}
	made0, code := row.Entries(m.l, m.b.Table, made[0])
	if code != api.OK {
		return api.Answer{Code: code}
	}
	key := picked(made[0], m.l[m.b.Table].Key)
	m.reads = reads(pointAt(m.b.Table, key...))
	for _, r := range m.rows[m.b.Table] {
		if slices.Equal(picked(r, m.l[m.b.Table].Key), key) {
			return api.Answer{Code: api.ErrTwice}
		}
	}
	return api.Answer{Count: 1, Writes: puts(made0...)}
}

// reading: the rows that are read.
func (m *model) reading() [][]api.Value {
	access, _ := plan.Choose(m.l, m.b.Table, eval.Split(m.b.Where))
	m.reads = reads(access.Range)
	var read [][]api.Value
	byIndex := map[string]api.Range{}
	var order []string
	for _, r := range m.rows[m.b.Table] {
		e := entriesWanted(m.l, m.b.Table, r)
		if at := string(e[access.Index].Key); inside([]byte(at), access.Range) {
			read, order = append(read, r), append(order, at)
			byIndex[at] = pointAt(m.b.Table, picked(r, m.l[m.b.Table].Key)...)
		}
	}
	slices.Sort(order)
	for _, at := range order {
		if access.Index > 0 {
			m.reads = append(m.reads, byIndex[at])
		}
	}
	if m.b.Other > 0 {
		m.reads = append(m.reads, span(m.b.Other-1, 0))
	}
	return read
}

// keeps: the rows, or pairs, of which all that is asked holds.
func (m *model) keeps(rows [][]api.Value) ([][]api.Value, api.Errno) {
	where := eval.Split(m.b.Where)
	if m.b.Other > 0 {
		lead := plan.Lead(where)
		var pairs [][]api.Value
		for _, a := range rows {
			for _, b := range m.rows[m.b.Other-1] {
				pairs = append(pairs, slices.Concat(a, b))
			}
		}
		rows, where = pairs, slices.Insert(where, lead, eval.Split(m.b.On)...)
	}
	var kept [][]api.Value
rows:
	for _, r := range rows {
		for _, e := range where {
			v, code := eval.Eval(e, r)
			if code != api.OK {
				return nil, code
			}
			if v != truth(1) {
				continue rows
			}
		}
		if len(kept) == api.MaxRows {
			return nil, api.ErrSize
		}
		kept = append(kept, r)
	}
	return kept, api.OK
}

func (m *model) selects(kept [][]api.Value) api.Answer {
	var made [][]api.Value
	var code api.Errno
	if m.b.Grouped {
		made, code = rel.Group(kept, m.b.Groups, m.b.Values)
	} else {
		made, code = rel.Project(kept, m.b.Values)
	}
	if code != api.OK {
		return api.Answer{Code: code}
	}
	made, _ = rel.Sort(made, m.b.Orders)
	if m.b.Limited && m.b.Limit < len(made) {
		made = made[:m.b.Limit]
	}
	return api.Answer{Rows: made, Count: len(made)}
}

func (m *model) changes(kept [][]api.Value) api.Answer {
	a := api.Answer{Count: len(kept)}
	for _, was := range kept {
		if m.b.Kind == api.Delete {
			a.Writes = append(a.Writes, drops(entriesWanted(m.l, m.b.Table, was)...)...)
			continue
		}
		is := slices.Clone(was)
		for _, c := range m.b.Changes {
			v, code := eval.Eval(c.Expr, was)
			if code != api.OK {
				return api.Answer{Code: code}
			}
			is[c.Place] = v
		}
		if _, code := row.Entries(m.l, m.b.Table, is); code != api.OK {
			return api.Answer{Code: code}
		}
		a.Writes = append(a.Writes, rewritten(m.l, m.b.Table, pairOf{was, is})...)
	}
	return a
}

func oneOf[T any](random *rand.Rand, l ...T) T { return l[random.Intn(len(l))] }

// someOf: from least to most of them, one by one.
func someOf(random *rand.Rand, least, most int, l ...string) []string {
	var picked []string
	for range least + random.Intn(most-least+1) {
		picked = append(picked, oneOf(random, l...))
	}
	return picked
}

// maybe: a text, or none.
func maybe(random *rand.Rand, text string) string {
	return oneOf(random, "", text)
}

// randomStock: few or many rows, of few values, so that many have the same ones.
func randomStock(random *rand.Rand) stock {
	var rows stock
	number := func() api.Value { return oneOf(random, null, whole(-5), whole(0), whole(10), whole(10), whole(20)) }
	text := func() api.Value { return oneOf(random, words(""), words("a"), words("a"), words("b"), words("b\x00")) }
	for i := range random.Intn(12) {
		if random.Intn(3) > 0 {
			rows[tableT] = append(rows[tableT], rowWith(whole(i), oneOf(random, null, text()), oneOf(random, null, truth(0), truth(1)), number()))
		}
	}
	for _, y := range []string{"a", "b", "z"} {
		for x := range random.Intn(5) {
			if random.Intn(3) > 0 {
				rows[tableU] = append(rows[tableU], rowWith(whole(x*10-10), words(y), number()))
			}
		}
	}
	for _, k := range []string{"", "a", "b", "p", "z"} {
		if random.Intn(3) > 0 {
			rows[tableW] = append(rows[tableW], rowWith(words(k), text(), oneOf(random, null, text()), number()))
		}
	}
	return rows
}

// askable: what may be asked of each table.
var askable = [3][]string{
	{
		"a = 3", "a > 2", "8 >= a", "a < 9", "d = 10", "d < 15", "10 <= d", "0 < d", "b = 'a'", "b > 'a'", "'b' >= b", "c = true", "d = 20", "b = ''",
		"t . a > 4", "d is null", "b is not null", "10 / ( a - 3 ) > - 2", "d + a > 12", "not c", "c", "b <> 'a'", "a = d", "( a = 1 or d = 10 )", "null", "d + 9223372036854775797 > 0", "( a < 7 and d > 5 )", "true",
	},
	{
		"x = 10", "x > 0", "y = 'z'", "'a' < y", "y = 'a'", "x <= 20", "z = 10", "z > 0",
		"10 / z < 2", "z is null", "x = z", "y <> 'b'", "( x = 0 or z = 0 )", "x + 9223372036854775797 > 0",
	},
	{
		"k = 'p'", "k > 'a'", "g = 'a'", "g >= 'a'", "g < 'b'", "'b' = g", "n = 10", "n > 0",
		"g = h", "h is null", "20 / n > 1", "n + 9223372036854775797 > 0", "not g = 'a'", "null = k",
	},
}

// items: what may be selected of each table.
var items = [3][]string{
	{"a", "b", "c", "d", "d + 1", "100 / d", "a + d > 12", "'k'"}, {"x", "y", "z", "x - z"}, {"k", "g", "h", "n", "5 / n"},
}

// gathered: what may be selected of groups of each table.
var gathered = [3][]string{
	{"count ( * )", "sum ( d )", "min ( b )", "max ( a )", "count ( d ) + 1", "sum ( 100 / d )", "10 / count ( b )"}, {"max ( x )", "count ( z )", "sum ( x )"}, {"min ( g )", "count ( h )", "sum ( n )", "max ( n )"},
}

// columnNames: those of each table.
var columnNames = [3][]string{{"a", "b", "c", "d"}, {"x", "y", "z"}, {"k", "g", "h", "n"}}

var tableNames = [3]string{"t", "u", "w"}

// settable: new values of columns of each table.
var settable = [3][][]string{
	{{"b = 'x'", "b = null", "b = b"}, {"c = not c", "c = a > 2", "c = null"}, {"d = d + 1", "d = a", "d = 100 / d", "d = null", "d = 0 - d", "d = d + 9223372036854775797"}},
	{{"z = x", "z = null", "z = 10 / z", "z = z + 1"}},
	{{"g = h", "g = 'm'", "g = g", "g = null"}, {"h = g", "h = null"}, {"n = n + 1", "n = 5 / n"}},
}

// insertable: values of each column of each table.
var insertable = [3][][]string{
	{{"3", "5 + 1", "- 1", "null", "9"}, {"'a'", "null"}, {"true", "1 / 0 = 1", "null"}, {"10", "null", "1 / 0", "9223372036854775807 + 1", "7"}},
	{{"10", "- 10", "15", "null"}, {"'z'", "'a'", "null"}, {"1", "null", "1 % 0"}},
	{{"'p'", "'a'", "'x'", "null"}, {"'on'", "null", "'a'"}, {"null", "'h'"}, {"5", "null", "1 / 0"}},
}

func whereOf(random *rand.Rand, l []string) string {
	conjuncts := someOf(random, 0, 4, l...)
	if len(conjuncts) == 0 {
		return ""
	}
	return " where " + strings.Join(conjuncts, " and ")
}

// randomSelect: of one table or of two.
func randomSelect(random *rand.Rand) string {
	table := random.Intn(3)
	asked, some, many, names := askable[table], items[table], gathered[table], columnNames[table]
	from := " from " + tableNames[table]
	if random.Intn(3) == 0 {
		other := (table + 1 + random.Intn(2)) % 3
		asked, some, many, names = slices.Concat(asked, askable[other]), slices.Concat(some, items[other]), slices.Concat(many, gathered[other]), slices.Concat(names, columnNames[other])
		from += " join " + tableNames[other] + " on " + strings.Join(someOf(random, 1, 3, asked...), " and ")
	}
	var head, tail string
	switch random.Intn(4) {
	case 0:
		head = "*"
	case 1:
		head = strings.Join(someOf(random, 1, 3, many...), " , ")
	case 2:
		groups := someOf(random, 1, 2, names...)
		head, tail = strings.Join(append(slices.Clone(groups), someOf(random, 0, 2, many...)...), " , "), " group by "+strings.Join(groups, " , ")
	default:
		head = strings.Join(someOf(random, 1, 4, some...), " , ")
	}
	var orders []string
	for range random.Intn(3) {
		orders = append(orders, fmt.Sprint(1+random.Intn(2), " ", maybe(random, "desc")))
	}
	if len(orders) > 0 {
		tail += " order by " + strings.Join(orders, " , ")
	}
	return "select " + head + from + whereOf(random, asked) + tail + maybe(random, fmt.Sprint(" limit ", random.Intn(6)))
}

// randomSource: of a statement of some kind.
func randomSource(random *rand.Rand) string {
	table := random.Intn(3)
	switch random.Intn(5) {
	case 0:
		var values []string
		for _, l := range insertable[table] {
			values = append(values, oneOf(random, l...))
		}
		return "insert into " + tableNames[table] + " values ( " + strings.Join(values, " , ") + " )"
	case 1:
		var sets []string
		for _, i := range random.Perm(len(settable[table]))[:1+random.Intn(len(settable[table]))] {
			sets = append(sets, oneOf(random, settable[table][i]...))
		}
		return "update " + tableNames[table] + " set " + strings.Join(sets, " , ") + whereOf(random, askable[table])
	case 2:
		return "delete from " + tableNames[table] + whereOf(random, askable[table])
	}
	return randomSelect(random)
}

// P16.2 to P16.8: whatever rows and statements.
func TestRunMany(t *testing.T) {
	random := rand.New(rand.NewSource(1616))
	l := tables(t)
	codes := map[api.Errno]int{}
	for i := range 20000 {
		rows, source := randomStock(random), randomSource(random)
		s, snap := statement(t, source), snapOf(l, rows)
		want := wanted(l, rows, s)
		codes[want.Code]++
		if i%10 == 0 {
			checkRun(t, l, snap, s, want)
		} else if got := Run(l, snap, s); !alike(got, want) {
			t.Errorf("%s: %s\nwant %s", source, brief(got), brief(want))
		}
		if t.Failed() {
			t.Fatalf("on %s", brief(rows))
		}
	}
	for _, code := range []api.Errno{api.OK, api.ErrTwice, api.ErrZero, api.ErrOver, api.ErrNull, api.ErrRange} {
		if codes[code] < 100 {
			t.Errorf("only %d came to %d", codes[code], code)
		}
	}
	if codes[api.OK] < 10000 {
		t.Errorf("only %d came to OK", codes[api.OK])
	}
}

// rowsBehind: the rows of a snapshot of a catalog, as the first entries have them.
func rowsBehind(snap []api.Entry) []api.Entry {
	var l []api.Entry
	for _, e := range snap {
		if len(e.Value) > 0 {
			l = append(l, e)
		}
	}
	return l
}

// What comes of it: with indexes and without the same Code, Rows and Count, and the same rows behind the Writes; a snapshot that fits, behind them, too.
func TestIndexesDoNotMatter(t *testing.T) {
	random := rand.New(rand.NewSource(61))
	l := tables(t)
	plain := bare(l)
	one := bare(l)
	one[tableT].Indexes, one[tableU].Indexes = l[tableT].Indexes[1:], []api.Index{{Name: "uz", Places: []int{2}}, {Name: "ux", Places: []int{0, 2}}}
	for range 4000 {
		rows, source := randomStock(random), randomSource(random)
		s := statement(t, source)
		want := Run(plain, snapOf(plain, rows), s)
		left, code := Apply(snapOf(plain, rows), want.Writes)
		for _, c := range [][]api.Table{l, one} {
			snap := snapOf(c, rows)
			got := Run(c, snap, s)
			behind, e := Apply(snap, got.Writes)
			if got.Code != want.Code || got.Count != want.Count || !alikeRows(got.Rows, want.Rows) || e != code || !alikeEntries(rowsBehind(behind), left) || !row.Fits(c, behind) {
				t.Fatalf("%s: %s\nwithout indexes %s", source, brief(got), brief(want))
			}
		}
	}
}

// changedStock: another stock, in which some rows are others, new, or gone.
func changedStock(random *rand.Rand, l []api.Table, rows stock, mayChange func(e api.Entry) bool) stock {
	more := randomStock(random)
	for table := range rows {
		list := map[string][]api.Value{}
		for _, r := range rows[table] {
			list[string(keyOf(table, 0, picked(r, l[table].Key)...))] = r
		}
		for _, r := range slices.Concat(rows[table], more[table]) {
			key := string(keyOf(table, 0, picked(r, l[table].Key)...))
			free := !slices.ContainsFunc(entriesWanted(l, table, r), func(e api.Entry) bool { return !mayChange(e) })
			was, there := list[key]
			if there {
				free = free && !slices.ContainsFunc(entriesWanted(l, table, was), func(e api.Entry) bool { return !mayChange(e) })
			}
			switch {
			case free && there && slices.Equal(was, r) && random.Intn(2) == 0:
				delete(list, key)
			case free:
				list[key] = r
			}
		}
		rows[table] = nil
		for _, r := range list {
			rows[table] = append(rows[table], r)
		}
	}
	return rows
}

// What comes of it: what was not read does not matter.
func TestUnreadDoesNotMatter(t *testing.T) {
	random := rand.New(rand.NewSource(166))
	l := tables(t)
	others := 0
	for range 4000 {
		rows, source := randomStock(random), randomSource(random)
		s, snap := statement(t, source), snapOf(l, rows)
		want := Run(l, snap, s)
		changed := snapOf(l, changedStock(random, l, rows, func(e api.Entry) bool {
			return !slices.ContainsFunc(want.Reads, func(r api.Range) bool { return inside(e.Key, r) })
		}))
		if !row.Fits(l, changed) {
			t.Fatalf("%s does not fit", brief(changed))
		}
		if !alikeEntries(snap, changed) {
			others++
		}
		if got := Run(l, changed, s); !alike(got, want) {
			t.Fatalf("%s: %s\nwith other rows that were not read %s", source, brief(want), brief(got))
		}
	}
	if others < 2000 {
		t.Errorf("only %d times there were other rows", others)
	}
}
