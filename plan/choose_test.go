package plan

import (
	"bytes"
	"fmt"
	"math"
	"math/rand"
	"slices"
	"testing"

	"commonhold/api"
	"commonhold/catalog"
	"commonhold/eval"
	"commonhold/row"
)

// P15.2: a catalog that does not fit, ahead of a table that is not there.
func TestChooseOfMisfits(t *testing.T) {
	for _, l := range misfits() {
		for _, table := range append(strangeTables(len(l)), 0, 1, 2) {
			checkChoose(t, l, table, nil, api.Access{}, api.ErrForm)
			checkChoose(t, l, table, all(equal(0, whole(1))), api.Access{}, api.ErrForm)
			checkChoose(t, l, table, all(twofold()), api.Access{}, api.ErrForm)
		}
	}
}

// P15.2: tables that are there, and that are not.
func TestChooseOfTables(t *testing.T) {
	for _, l := range [][]api.Table{nil, {}, several()[:1], several()[:2], several(), greatest()} {
		for _, table := range strangeTables(len(l)) {
			checkChoose(t, l, table, nil, api.Access{}, api.ErrRange)
			checkChoose(t, l, table, all(equal(0, whole(1))), api.Access{}, api.ErrRange)
			checkChoose(t, l, table, all(twofold()), api.Access{}, api.ErrRange)
		}
		for table := range l {
			checkChoose(t, l, table, nil, within(table, 0), api.OK)
			checkChoose(t, l, table, all(), within(table, 0), api.OK)
		}
	}
}

// P15.2: only what is ahead of the first one that is not simple counts.
func TestChooseOfOthers(t *testing.T) {
	l := several()
	good, late := equal(0, words("x")), equal(2, whole(5))
	for _, bad := range all(
		twofold(), api.Expr{}, of(api.Differ, place(2), constant(whole(5))), equal(2, null), equal(-1, whole(5)), of(api.Equal, place(2), place(2)),
		of(api.Equal, place(2), of(api.Plus, constant(whole(2)), constant(whole(3)))), equal(2, api.Value{Kind: -1}), of(api.IsNull, place(2)),
	) {
		checkChoose(t, l, 1, all(bad), within(1, 0), api.OK)
		checkChoose(t, l, 1, all(bad, good, late), within(1, 0), api.OK)
		checkChoose(t, l, 1, all(good, bad, late), within(1, 1, words("x")), api.OK)
		checkChoose(t, l, 1, all(good, late, bad), within(1, 0, whole(5)), api.OK)
		checkChoose(t, l, 1, all(late, bad, equal(1, truth(1))), within(1, 0, whole(5)), api.OK)
		checkChoose(t, l, 1, all(late, bad, limiting(1, api.Less, truth(1))), within(1, 0, whole(5)), api.OK)
	}
}

// P15.2: what limits a column that the table has not does not count, but what is behind it does.
func TestChooseOfOtherColumns(t *testing.T) {
	l := several()
	for table := range l {
		for _, at := range []int{len(l[table].Columns), len(l[table].Columns) + 1, api.MaxCols, 100, 1 << 32, math.MaxInt64} {
			for _, op := range comparisons() {
				far := limiting(at, op, whole(1))
				checkChoose(t, l, table, all(far), within(table, 0), api.OK)
				first := l[table].Key[0]
				checkChoose(t, l, table, all(far, equal(first, whole(7)), far), within(table, 0, whole(7)), api.OK)
				checkChoose(t, l, table, all(turned(at, op, whole(1)), turned(first, api.Equal, whole(7))), within(table, 0, whole(7)), api.OK)
			}
		}
	}
}

// P15.2: of each index no column, some and all of them fixed; from the first one on.
func TestChooseFixed(t *testing.T) {
	l := several()
	a, b, c, d, e := equal(0, whole(1)), turned(1, api.Equal, words("b")), equal(2, truth(1)), equal(3, whole(4)), turned(4, api.Equal, whole(5))
	for _, x := range []struct {
		asked []api.Expr
		want  api.Access
	}{
		{all(b), within(2, 0, words("b"))},
		{all(b, c), within(2, 0, words("b"), truth(1))},
		{all(c, b), within(2, 0, words("b"), truth(1))},
		{all(a, b, c), within(2, 0, words("b"), truth(1), whole(1))},
		{all(c, b, a), within(2, 0, words("b"), truth(1), whole(1))},
		{all(a, b), within(2, 0, words("b"))},
		{all(d), within(2, 1, whole(4))},
		{all(a, d), within(2, 1, whole(4), whole(1))},
		{all(d, a), within(2, 1, whole(4), whole(1))},
		{all(a), within(2, 0)},
		{all(e), within(2, 0)},
		{all(a, e), within(2, 0)},
		{all(c), within(2, 2, truth(1))},
		{all(a, c), within(2, 2, truth(1))},
		{all(e, c), within(2, 2, truth(1))},
		{all(d, c), within(2, 2, truth(1), whole(4))},
		{all(e, d, c), within(2, 2, truth(1), whole(4), whole(5))},
		{all(e, d), within(2, 1, whole(4))},
		{all(e, d, c, a), within(2, 2, truth(1), whole(4), whole(5))},
	} {
		checkChoose(t, l, 2, x.asked, x.want, api.OK)
	}
	checkChoose(t, l, 0, all(equal(1, words("x"))), within(0, 0), api.OK)
	checkChoose(t, l, 0, all(equal(0, whole(-1)), equal(1, words("x"))), within(0, 0, whole(-1)), api.OK)
	checkChoose(t, l, 1, all(equal(1, truth(0))), within(1, 0), api.OK)
	checkChoose(t, l, 1, all(equal(1, truth(0)), equal(2, whole(3))), within(1, 0, whole(3), truth(0)), api.OK)
	checkChoose(t, l, 1, all(equal(1, truth(0)), equal(0, words("x"))), within(1, 1, words("x")), api.OK)
}

// P15.2: the Key's columns stand behind those of an index in its entries, but are none of its columns.
func TestChooseBehindIndexes(t *testing.T) {
	l := several()
	x, five := equal(0, words("x")), equal(2, whole(5))
	checkChoose(t, l, 1, all(x, five), within(1, 0, whole(5)), api.OK)
	checkChoose(t, l, 1, all(x, limiting(2, api.Less, whole(5))), within(1, 1, words("x")), api.OK)
	checkChoose(t, l, 1, all(x, equal(1, truth(1))), within(1, 1, words("x")), api.OK)
}

// P15.2: of several that fix a column the first one counts; one that is limited otherwise, too, is fixed all the same.
func TestChooseFixedTwice(t *testing.T) {
	l := several()
	checkChoose(t, l, 0, all(equal(0, whole(5)), equal(0, whole(3)), equal(0, whole(9))), within(0, 0, whole(5)), api.OK)
	checkChoose(t, l, 0, all(turned(0, api.Equal, whole(9)), equal(0, whole(3))), within(0, 0, whole(9)), api.OK)
	checkChoose(t, l, 0, all(equal(0, words("x")), equal(0, whole(3))), within(0, 0, words("x")), api.OK)
	for _, op := range []int{api.Less, api.Most, api.More, api.Least} {
		for _, v := range []int{1, 5, 9} {
			other := limiting(0, op, whole(v))
			checkChoose(t, l, 0, all(other, equal(0, whole(5))), within(0, 0, whole(5)), api.OK)
			checkChoose(t, l, 0, all(equal(0, whole(5)), other), within(0, 0, whole(5)), api.OK)
			checkChoose(t, l, 0, all(other, equal(0, whole(5)), turned(0, op, whole(v)), equal(0, whole(6))), within(0, 0, whole(5)), api.OK)
		}
		// Neither does what else limits a fixed column bound the next one, or weigh.
		between := all(limiting(2, op, whole(5)), equal(2, whole(5)))
		checkChoose(t, l, 1, between, within(1, 0, whole(5)), api.OK)
		checkChoose(t, l, 1, append(all(equal(0, words("x")), limiting(0, op, words("x"))), between...), within(1, 0, whole(5)), api.OK)
	}
}

// P15.2: the next column may be bounded; the one behind it does not count.
func TestChooseBounded(t *testing.T) {
	l := several()
	up := func(table, index int, v api.Value, fixed ...api.Value) api.Access {
		p := keyOf(table, index, fixed...)
		return between(index, p, append(bytes.Clone(p), keyed(v)...))
	}
	less := func(at int, v api.Value) api.Expr { return limiting(at, api.Less, v) }
	b, c := words("b"), truth(1)
	checkChoose(t, l, 2, all(less(1, b)), up(2, 0, b), api.OK)
	checkChoose(t, l, 2, all(equal(1, b), less(2, c)), up(2, 0, c, b), api.OK)
	checkChoose(t, l, 2, all(less(0, whole(1)), equal(1, b), equal(2, c)), up(2, 0, whole(1), b, c), api.OK)
	// A column between that is neither fixed nor bounded, and one that is bounded.
	checkChoose(t, l, 2, all(equal(1, b), less(0, whole(1))), within(2, 0, b), api.OK)
	checkChoose(t, l, 2, all(equal(1, b), equal(0, whole(1))), within(2, 0, b), api.OK)
	checkChoose(t, l, 2, all(less(1, b), less(2, c)), up(2, 0, b), api.OK)
	checkChoose(t, l, 2, all(less(0, whole(1))), within(2, 0), api.OK)
	checkChoose(t, l, 2, all(less(4, whole(1)), equal(2, c), less(3, whole(6))), up(2, 2, whole(6), c), api.OK)
	checkChoose(t, l, 2, all(less(4, whole(1)), equal(2, c)), within(2, 2, c), api.OK)
	checkChoose(t, l, 2, all(less(1, b), equal(2, c), equal(0, whole(1))), within(2, 2, c), api.OK)
	// All columns are fixed: there is none left to be bounded.
	checkChoose(t, l, 2, all(equal(3, whole(4)), equal(0, whole(1)), less(1, b), less(4, whole(5))), within(2, 1, whole(4), whole(1)), api.OK)
}

// P15.2: two for a fixed column, one for a bounded one; of the same weight the lowest one.
func TestChooseWeights(t *testing.T) {
	one := api.Table{Name: "w", Key: []int{0, 1, 2}}
	for i := range api.MaxCols {
		one.Columns = append(one.Columns, column(string(rune('a'+i)), api.Int, true))
	}
	one.Indexes = []api.Index{{Name: "i", Places: []int{3, 4, 5}}, {Name: "j", Places: []int{5, 3, 1}}}
	l := []api.Table{one}
	eq := func(at int) api.Expr { return equal(at, whole(at)) }
	least := func(at int) api.Expr { return limiting(at, api.Least, whole(at)) }
	for _, x := range []struct {
		asked []api.Expr
		index int
	}{
		{all(), 0},
		{all(least(0), least(3), least(5)), 0},
		{all(least(3), least(5)), 1},
		{all(least(5)), 2},
		{all(least(0), eq(3)), 1},
		{all(least(0), least(3), eq(5)), 2},
		{all(eq(0), eq(3), eq(5)), 2},
		{all(eq(0), eq(3)), 0},
		{all(eq(0), eq(5)), 0},
		{all(eq(0), least(1), eq(3)), 0},
		{all(eq(0), eq(3), least(4)), 1},
		{all(eq(0), least(1), eq(3), least(4)), 0},
		{all(eq(0), least(1), eq(3), eq(4)), 1},
		{all(eq(0), least(2), eq(3)), 0},
		{all(eq(0), least(2), eq(3), least(4)), 1},
		{all(eq(0), eq(1), eq(3), eq(4)), 0},
		{all(eq(0), eq(1), eq(3), eq(4), least(5)), 1},
		{all(eq(0), eq(1), least(2), eq(3), eq(4), least(5)), 0},
		{all(eq(0), eq(1), least(2), eq(3), eq(4), eq(5)), 1},
		{all(eq(0), eq(1), eq(2), eq(3), eq(4), eq(5)), 0},
		{all(eq(1), eq(3), eq(5)), 2},
		{all(eq(1), eq(3), eq(4), eq(5)), 1},
		{all(eq(3), eq(5)), 2},
		{all(eq(3), least(4), eq(5)), 2},
		{all(eq(3), eq(4), least(5)), 1},
		{all(least(3), least(3), least(3), eq(5)), 2},
		{all(least(0), least(0), least(0), eq(5)), 2},
		{all(eq(0), eq(0), eq(0), eq(3), least(4)), 1},
	} {
		got, code := Choose(l, 0, x.asked)
		if got.Index != x.index || code != api.OK {
			t.Errorf("Choose of %s: %d, %d; want %d", brief(x.asked), got.Index, code, x.index)
		}
	}
}

// P15.2: indexes of the same columns, of which the lowest one is read.
func TestChooseLowest(t *testing.T) {
	columns := []api.Column{column("a", api.Int, true), column("b", api.Int, true)}
	index := func(name string, l ...int) api.Index { return api.Index{Name: name, Places: l} }
	l := []api.Table{
		{Name: "t", Columns: columns, Key: []int{0}, Indexes: []api.Index{index("i", 1), index("j", 1)}},
		{Name: "u", Columns: columns, Key: []int{0}, Indexes: []api.Index{index("i", 0), index("j", 0, 1)}},
	}
	checkChoose(t, l, 0, all(equal(1, whole(3))), within(0, 1, whole(3)), api.OK)
	checkChoose(t, l, 1, all(equal(0, whole(3))), within(1, 0, whole(3)), api.OK)
	checkChoose(t, l, 1, all(equal(1, whole(2)), equal(0, whole(3))), within(1, 2, whole(3), whole(2)), api.OK)
	bound := behind(keyOf(0, 1, whole(3)))
	checkChoose(t, l, 0, all(limiting(1, api.Most, whole(3))), between(1, keyOf(0, 1), bound), api.OK)
}

// P15.2: a value of another type limits a column, too.
func TestChooseOfOtherTypes(t *testing.T) {
	l := several()
	for table, x := range l {
		first := x.Key[0]
		for _, v := range []api.Value{truth(0), truth(1), whole(7), words("x"), words(zeros)} {
			c, p := keyOf(table, 0, v), keyOf(table, 0)
			checkChoose(t, l, table, all(equal(first, v)), within(table, 0, v), api.OK)
			checkChoose(t, l, table, all(limiting(first, api.Less, v)), between(0, p, c), api.OK)
			checkChoose(t, l, table, all(turned(first, api.More, v)), between(0, behind(c), behind(p)), api.OK)
		}
	}
	mixed := all(limiting(0, api.Less, words("x")), limiting(0, api.Least, truth(1)), limiting(0, api.More, whole(3)))
	checkChoose(t, l, 0, mixed, between(0, behind(keyOf(0, 0, whole(3))), keyOf(0, 0, words("x"))), api.OK)
}

// ask: an expression, whether it is simple, and what it limits then.
type ask struct {
	e      api.Expr
	simple bool
	at, op int
	v      api.Value
}

// exprs: what is asked.
func exprs(l []ask) []api.Expr {
	var asked []api.Expr
	for _, a := range l {
		asked = append(asked, a.e)
	}
	return asked
}

// wanted: what Choose is to answer, of a table of a catalog that fits.
func wanted(l []api.Table, table int, asked []ask) api.Access {
	if i := slices.IndexFunc(asked, func(a ask) bool { return !a.simple }); i >= 0 {
		asked = asked[:i]
	}
	lists := [][]int{l[table].Key}
	for _, x := range l[table].Indexes {
		lists = append(lists, x.Places)
	}
	best, most := api.Access{}, -1
	for index, places := range lists {
		if a, weight := weighed(table, index, places, asked); weight > most {
			best, most = a, weight
		}
	}
	return best
}

// weighed: how an index is to be read, and its weight.
func weighed(table, index int, places []int, asked []ask) (api.Access, int) {
	fixed := []api.Value{whole(table), whole(index)}
	for len(places) > 0 {
		i := slices.IndexFunc(asked, func(a ask) bool { return a.at == places[0] && a.op == api.Equal })
		if i < 0 {
			break
		}
		fixed, places = append(fixed, asked[i].v), places[1:]
	}
	p := keyed(fixed...)
	lows, highs := [][]byte{p}, [][]byte{behind(p)}
	for _, a := range asked {
		if len(places) == 0 || a.at != places[0] {
			continue
		}
		c := keyed(append(slices.Clone(fixed), a.v)...)
		switch a.op {
		case api.Less:
			highs = append(highs, c)
		case api.Most:
			highs = append(highs, behind(c))
		case api.More:
			lows = append(lows, behind(c))
		case api.Least:
			lows = append(lows, c)
		}
	}
	weight := 2 * (len(fixed) - 2)
	if len(lows)+len(highs) > 2 {
		weight++
	}
	return between(index, slices.MaxFunc(lows, bytes.Compare), slices.MinFunc(highs, bytes.Compare)), weight
}

func oneOf[T any](random *rand.Rand, l []T) T { return l[random.Intn(len(l))] }

// randomCatalog: one that fits, of 1 to MaxTables tables.
func randomCatalog(random *rand.Rand) []api.Table {
	some := func(columns int) []int { return random.Perm(columns)[:1+random.Intn(min(columns, api.MaxKeys))] }
	var l []api.Table
	for i := range 1 + random.Intn(api.MaxTables) {
		t := api.Table{Name: fmt.Sprint("t", i)}
		for j := range 1 + random.Intn(api.MaxCols) {
			t.Columns = append(t.Columns, column(fmt.Sprint("c", j), 1+random.Intn(3), random.Intn(3) == 0))
		}
		t.Key = some(len(t.Columns))
		for _, at := range t.Key {
			t.Columns[at].NotNull = true
		}
		for j := range random.Intn(api.MaxIndex + 1) {
			t.Indexes = append(t.Indexes, api.Index{Name: fmt.Sprint("i", j), Places: some(len(t.Columns))})
		}
		l = append(l, t)
	}
	return l
}

// randomAsk: mostly a simple one that limits a column, mostly by a value of its Type.
func randomAsk(random *rand.Rand, columns []api.Column) ask {
	if random.Intn(25) == 0 {
		at := random.Intn(len(columns))
		return ask{e: oneOf(random, all(twofold(), api.Expr{}, equal(at, null), of(api.Differ, place(at), constant(whole(1))), of(api.Equal, place(at), place(at))))}
	}
	a := ask{simple: true, at: random.Intn(len(columns) + 1), op: oneOf(random, append(comparisons(), api.Equal, api.Equal))}
	kind := 1 + random.Intn(3)
	if a.at < len(columns) && random.Intn(10) > 0 {
		kind = columns[a.at].Type
	}
	a.v = oneOf(random, ofKind(kind))
	a.e = oneOf(random, all(limiting(a.at, a.op, a.v), turned(a.at, a.op, a.v)))
	return a
}

// P15.2 and P15.3: whatever catalog, table and expressions.
func TestChooseOfMany(t *testing.T) {
	random := rand.New(rand.NewSource(1))
	indexes := map[int]int{}
	for range 2500 {
		l := randomCatalog(random)
		if !catalog.Fits(l) {
			t.Fatalf("%s does not fit", brief(l))
		}
		table := random.Intn(len(l))
		var asked []ask
		for range random.Intn(9) {
			asked = append(asked, randomAsk(random, l[table].Columns))
		}
		want := wanted(l, table, asked)
		indexes[want.Index]++
		checkChoose(t, l, table, exprs(asked), want, api.OK)
	}
	for i := range api.MaxIndex + 1 {
		if indexes[i] < 50 {
			t.Errorf("index %d is read but %d times", i, indexes[i])
		}
	}
}

// randomRow: a row that may be.
func randomRow(random *rand.Rand, columns []api.Column) []api.Value {
	var r []api.Value
	for _, c := range columns {
		if !c.NotNull && random.Intn(4) == 0 {
			r = append(r, null)
		} else {
			r = append(r, oneOf(random, ofKind(c.Type)))
		}
	}
	return r
}

// holds: whether all that is asked holds of a row.
func holds(asked []api.Expr, r []api.Value) bool {
	return !slices.ContainsFunc(asked, func(e api.Expr) bool {
		ok, code := eval.Holds(e, r)
		return !ok || code != api.OK
	})
}

// What comes of it: a row of which all that is asked holds has its entry there.
func TestChooseFindsRows(t *testing.T) {
	random := rand.New(rand.NewSource(2))
	held, outside := 0, 0
	for range 30000 {
		l := randomCatalog(random)
		table := random.Intn(len(l))
		r := randomRow(random, l[table].Columns)
		var asked []api.Expr
		for range random.Intn(4) {
			asked = append(asked, randomAsk(random, l[table].Columns).e)
		}
		a, code := Choose(l, table, asked)
		if code != api.OK {
			t.Fatalf("Choose(%s, %d, %s): %d", brief(l), table, brief(asked), code)
		}
		made, code := row.Entries(l, table, r)
		if code != api.OK {
			t.Fatalf("Entries(%s, %d, %s): %d", brief(l), table, brief(r), code)
		}
		k := made[a.Index].Key
		there := bytes.Compare(a.Range.Low, k) <= 0 && bytes.Compare(k, a.Range.High) < 0
		if holds(asked, r) {
			held++
			if !there {
				t.Errorf("%s holds of %s, but its entry %v is not in %v", brief(asked), brief(r), k, a)
			}
		} else if !there {
			outside++
		}
	}
	if held < 1000 || outside < 1000 {
		t.Errorf("all holds of %d rows, %d others are not read", held, outside)
	}
}
