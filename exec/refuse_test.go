package exec

import (
	"bytes"
	"math"
	"slices"
	"testing"

	"commonhold/api"
	"commonhold/bind"
	"commonhold/catalog"
)

// misfits: catalogs that do not fit, each for another cause. Their tables are still those of the schema.
func misfits(t *testing.T) [][]api.Table {
	changes := []func(l []api.Table) []api.Table{
		func(l []api.Table) []api.Table { return append(l, l[0]) },
		func(l []api.Table) []api.Table { l[2].Name = "table"; return l },
		func(l []api.Table) []api.Table { l[0].Columns[3].Type = api.Null; return l },
		func(l []api.Table) []api.Table { l[0].Columns[0].NotNull = false; return l },
		func(l []api.Table) []api.Table { l[1].Key = nil; return l },
		func(l []api.Table) []api.Table { l[1].Key[0] = 3; return l },
		func(l []api.Table) []api.Table { l[1].Key[1] = -1; return l },
		func(l []api.Table) []api.Table { l[0].Indexes[1].Name = "td"; return l },
		func(l []api.Table) []api.Table { l[0].Indexes[1].Places[1] = 4; return l },
		func(l []api.Table) []api.Table { l[2].Indexes[0].Places = nil; return l },
		func(l []api.Table) []api.Table {
			return append(l, api.Table{Name: "x", Columns: l[0].Columns, Key: l[0].Key}, api.Table{Name: "y", Columns: l[0].Columns, Key: l[0].Key})
		},
	}
	var l [][]api.Table
	for i, change := range changes {
		l = append(l, change(tables(t)))
		if catalog.Fits(l[i]) {
			t.Fatalf("misfit %d fits", i)
		}
	}
	return l
}

// several: statements of each kind, of some of which Bind refuses something.
func several(t *testing.T) []api.Statement {
	l := []api.Statement{{}, {Kind: -1}, {Kind: api.Select + 1}}
	for _, source := range []string{
		"select * from t", "insert into u values ( 1 , 'a' , 2 )", "update t set d = 1", "delete from w", "select * from nowhere", "create table x ( a int , primary key ( a ) )", "create index x on t ( a )", "select a from t join u on 1", "delete from t where b + 1 = 2",
	} {
		l = append(l, statement(t, source))
	}
	return l
}

// P16.2: a catalog that does not fit, whatever the snapshot and the statement are.
func TestRunOfMisfits(t *testing.T) {
	l := tables(t)
	for _, wrong := range misfits(t) {
		for _, s := range several(t) {
			checkRun(t, wrong, nil, s, api.Answer{Code: api.ErrForm})
			checkRun(t, wrong, snapOf(l, some()), s, api.Answer{Code: api.ErrForm})
			checkRun(t, wrong, snapOf(l, some())[1:], s, api.Answer{Code: api.ErrForm})
		}
	}
}

// wrongSnaps: snapshots that do not fit the catalog, each for another cause.
func wrongSnaps(t *testing.T) [][]api.Entry {
	l := tables(t)
	snap := snapOf(l, some())
	backward := slices.Clone(snap)
	slices.Reverse(backward)
	swapped := slices.Clone(snap)
	swapped[3], swapped[4] = swapped[4], swapped[3]
	other := slices.Clone(snap)
	other[0].Value = keyed(whole(1), words("another"), truth(1), whole(10))
	var many stock
	for i := range api.MaxSnap + 1 {
		many[tableU] = append(many[tableU], rowWith(whole(i), words(""), null))
	}
	return [][]api.Entry{
		snap[1:], snap[:len(snap)-1], slices.Delete(slices.Clone(snap), 7, 8), append(slices.Clone(snap), api.Entry{}), append(slices.Clone(snap), api.Entry{Key: []byte{255}}),
		{{}}, backward, swapped, other, slices.Insert(slices.Clone(snap), 2, snap[2]), snapOf(bare(l), some()), snapOf(l, many),
		{{Key: keyOf(3, 0, whole(1)), Value: keyed(whole(1))}},
	}
}

// P16.2: a snapshot that does not fit, whatever the statement is, even of a table whose rows are all as they should be.
func TestRunOfWrongSnaps(t *testing.T) {
	l := tables(t)
	for _, snap := range wrongSnaps(t) {
		for _, s := range several(t) {
			checkRun(t, l, snap, s, api.Answer{Code: api.ErrForm})
		}
	}
}

// P16.2: MaxSnap entries are not too many.
func TestRunOfFullSnap(t *testing.T) {
	var full stock
	for i := range api.MaxSnap {
		full[tableU] = append(full[tableU], rowWith(whole(i), words(""), null))
	}
	all := api.Answer{Rows: full[tableU], Count: api.MaxSnap, Reads: reads(span(tableU, 0))}
	check(t, full, "select * from u", all)
	// That there is no room for one more is Apply's to tell.
	l, more := tables(t), rowWith(whole(-1), words("a"), null)
	check(t, full, "insert into u values ( - 1 , 'a' , null )", api.Answer{Count: 1, Reads: reads(pointAt(tableU, words("a"), whole(-1))), Writes: puts(entriesWanted(l, tableU, more)...)})
}

// P16.2: what Bind refuses, with nothing else told.
func TestRunOfWrongStatements(t *testing.T) {
	for _, x := range []struct {
		source string
		code   api.Errno
	}{
		{"create table x ( a int , primary key ( a ) )", api.ErrKind},
		{"create index x on t ( a )", api.ErrKind},
		{"select * from nowhere", api.ErrNone},
		{"select * from t join nowhere on true", api.ErrNone},
		{"select * from t join t on true", api.ErrTwice},
		{"select nowhere from t", api.ErrNone},
		{"select n from w join t on nowhere = 1", api.ErrNone},
		{"select a from t where b = 1", api.ErrType},
		{"select a from t where d", api.ErrType},
		{"select a from t where count ( * ) = 1", api.ErrForm},
		{"select a , count ( * ) from t", api.ErrForm},
		{"select a from t order by 2", api.ErrRange},
		{"select a from t order by 0", api.ErrRange},
		{"insert into nowhere values ( 1 )", api.ErrNone},
		{"insert into t values ( 1 , 'a' , true )", api.ErrSize},
		{"insert into t values ( 1 , 'a' , true , 1 / 0 , 5 )", api.ErrSize},
		{"insert into t values ( 1 , 2 , true , 3 )", api.ErrType},
		{"insert into t values ( 1 , 'a' , true , a )", api.ErrNone},
		{"update t set a = 2", api.ErrState},
		{"update t set d = 1 , d = 2", api.ErrTwice},
		{"update t set nowhere = 1", api.ErrNone},
		{"update t set b = 1", api.ErrType},
		{"delete from t where 1", api.ErrType},
		{"delete from nowhere", api.ErrNone},
	} {
		refused(t, some(), x.source, x.code)
		refused(t, stock{}, x.source, x.code)
	}
}

// P16.2: statements that no source could be of; they all come to an end.
func TestRunOfStrangeStatements(t *testing.T) {
	l := tables(t)
	snap := snapOf(l, some())
	endless := api.Expr{Op: api.And, Subs: make([]api.Expr, 2)}
	endless.Subs[0], endless.Subs[1] = endless, endless
	wide := api.Expr{Op: api.Or, Subs: make([]api.Expr, 1<<16)}
	one := api.Expr{Op: api.Const, Value: whole(1)}
	for i, s := range []api.Statement{
		{}, {Kind: -1}, {Kind: api.Select + 1}, {Kind: math.MinInt64}, {Kind: math.MaxInt64},
		{Kind: api.Select}, {Kind: api.Select, Table: "T"}, {Kind: api.Select, Table: "t", Limit: 1}, {Kind: api.Select, Table: "t", Limited: true, Limit: -1},
		{Kind: api.Select, Table: "t", Other: "u"}, {Kind: api.Select, Table: "t", On: one}, {Kind: api.Select, Table: "t", Name: "t"},
		{Kind: api.Select, Table: "t", Where: endless}, {Kind: api.Select, Table: "t", Where: wide}, {Kind: api.Select, Table: "t", Other: "u", On: endless},
		{Kind: api.Select, Table: "t", Values: []api.Expr{{Op: api.Place, Place: 1}}}, {Kind: api.Select, Table: "t", Values: slices.Repeat([]api.Expr{one}, api.MaxItems+1)},
		{Kind: api.Insert, Table: "u"}, {Kind: api.Insert, Table: "u", Values: []api.Expr{{}, {}, {}}}, {Kind: api.Insert, Table: "u", Values: []api.Expr{endless, one, one}},
		{Kind: api.Update, Table: "t"}, {Kind: api.Update, Table: "t", Sets: []api.Set{{Name: "d", Expr: endless}}}, {Kind: api.Delete, Table: "t", Where: endless}, {Kind: api.Delete, Table: "t", Limited: true},
	} {
		if got := Run(l, snap, s); !alike(got, api.Answer{Code: api.ErrForm}) {
			t.Errorf("statement %d: %s", i, brief(got))
		}
	}
}

// P16.2: what is refused ahead of all is told in this order: the catalog, the snapshot, the statement.
func TestRunOfSeveralWrongs(t *testing.T) {
	l := tables(t)
	for _, source := range []string{"create index x on t ( a )", "select * from nowhere", "update t set a = 2", "insert into t values ( 1 )"} {
		s := statement(t, source)
		if _, code := bind.Bind(l, s); code == api.OK || code == api.ErrForm {
			t.Fatalf("Bind of %q: %d", source, code)
		}
		for _, snap := range wrongSnaps(t) {
			checkRun(t, l, snap, s, api.Answer{Code: api.ErrForm})
			checkRun(t, misfits(t)[1], snap, s, api.Answer{Code: api.ErrForm})
		}
	}
}

// P16.2: what is refused behind the reading leaves the Reads, and nothing else.
func TestRunTellsReads(t *testing.T) {
	td := span(tableT, 1, whole(10))
	ones := reads(td, pointAt(tableT, whole(1)), pointAt(tableT, whole(4)))
	for source, want := range map[string][]api.Range{
		"select 1 / ( a - 4 ) from t where d = 10":                     ones,
		"select a from t where d = 10 and 1 / ( a - 4 ) = 0":           ones,
		"select sum ( 1 / ( a - 4 ) ) from t where d = 10":             ones,
		"update t set d = 1 / ( a - 4 ) where d = 10":                  ones,
		"delete from t where d = 10 and 1 / ( a - 4 ) = 0":             ones,
		"select a from t join u on 1 / ( a - 4 ) = 1 where d = 10":     append(slices.Clone(ones), span(tableU, 0)),
		"select 1 / ( a - 1 ) from t join u on x = d where d = 10":     append(slices.Clone(ones), span(tableU, 0)),
		"select max ( 1 / z ) from t join u on x = d where d = 10":     append(slices.Clone(ones), span(tableU, 0)),
		"select a from t join u on x = d where 1 / ( a - a ) = d":      reads(span(tableT, 0), span(tableU, 0)),
		"update t set b = 'x' , d = 1 / ( a - 7 )":                     reads(span(tableT, 0)),
		"select a from t where a >= 7 and 1 / ( a - a ) = 1 and a < 9": reads(api.Range{Low: keyOf(tableT, 0, whole(7)), High: behind(keyOf(tableT, 0))}),
	} {
		refused(t, some(), source, api.ErrZero, want...)
	}
}

// P16.2: of a table that is not there nothing is read; of one without rows the same as of one with.
func TestRunOfNoRows(t *testing.T) {
	selected(t, stock{}, "select * from t", nil, span(tableT, 0))
	selected(t, stock{}, "select 1 / 0 from t where 1 / 0 = 1", nil, span(tableT, 0))
	check(t, stock{}, "delete from u", api.Answer{Reads: reads(span(tableU, 0))})
	check(t, stock{}, "update t set d = 1 / 0 where d = 3", api.Answer{Reads: reads(span(tableT, 1, whole(3)))})
	if got := Run(nil, nil, statement(t, "select * from t")); !alike(got, api.Answer{Code: api.ErrNone}) {
		t.Errorf("of no tables: %s", brief(got))
	}
	if got := Run(nil, []api.Entry{{Key: bytes.Clone(nil)}}, statement(t, "select * from t")); !alike(got, api.Answer{Code: api.ErrForm}) {
		t.Errorf("of no tables, but an entry: %s", brief(got))
	}
}
