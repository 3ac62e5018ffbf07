package tests

import (
	"cmp"
	"fmt"
	"math"
	"reflect"
	"slices"
	"strings"
	"testing"

	"loop.example/g00536/impl"
)

type stream = impl.Stream

// faultNames has at each fault the word that stands for it in these tests.
func faultNames() []string { return []string{"none", "over", "zero", "kind", "many"} }

// streamFrom reads rows with ; between, behind them ! and the name of a fault.
func streamFrom(t *testing.T, s string) stream {
	t.Helper()
	rows, fault, failed := strings.Cut(s, "!")
	out := stream{}
	for piece := range strings.SplitSeq(rows, ";") {
		if piece = strings.TrimSpace(piece); piece != "" {
			out.Rows = append(out.Rows, rowFrom(t, piece))
		}
	}
	if failed {
		out.Fault = int64(slices.Index(faultNames(), fault))
	}
	if out.Fault < 0 {
		t.Fatalf("%q is no stream", s)
	}
	return out
}

// ending is these rows, and what they end with.
func ending(rows []row, fault int64) stream { return stream{Rows: rows, Fault: fault} }

func sameStream(a stream, b stream) bool {
	return a.Fault == b.Fault && slices.EqualFunc(a.Rows, b.Rows, func(x row, y row) bool { return slices.Equal(x, y) })
}

func shownStream(x stream) string {
	pieces := []string{}
	for _, r := range x.Rows {
		pieces = append(pieces, impl.RowText(r))
	}
	return fmt.Sprint(len(x.Rows), " rows: ", strings.Join(pieces, "; "), " !", x.Fault)
}

func wantStream(t *testing.T, name string, want stream, got stream) {
	t.Helper()
	if !sameStream(want, got) {
		t.Errorf("%s: %s; want %s", name, shownStream(got), shownStream(want))
	}
	if !impl.SameStream(want, got) || !impl.SameStream(got, want) {
		t.Errorf("%s: SameStream says no of %s and %s", name, shownStream(got), shownStream(want))
	}
}

// streamBase has a Table without rows, one with cells of all Kinds, one with
// numbers and what is lacking, one with rows that are alike, and one of
// MaxColumns columns.
func streamBase() base {
	b := base{emptyTable("e", "d f"), emptyTable("m", "g h"), emptyTable("t", "a b"), emptyTable("u", "c"), emptyTable("w", "p q r s x z")}
	b[1].Rows = []row{{text("x"), truth(1)}, {number(5), truth(0)}, {{}, {}}, {number(-3), text("x")}}
	b[2].Rows = []row{{number(1), number(5)}, {number(3), number(2)}, {{}, number(7)}}
	b[3].Rows = []row{{number(2)}, {number(3)}, {number(3)}}
	b[4].Rows = []row{{number(1), number(2), number(3), number(4), number(5), number(6)}, {{}, text("q"), truth(1), truth(0), number(0), number(6)}}
	return b
}

func wantThrough(t *testing.T, b base, columns []string, s impl.Sieve, in stream, want stream) {
	t.Helper()
	name := fmt.Sprintf("Through %+v of %q, %s", s, columns, shownStream(in))
	wantStream(t, name, want, impl.Through(b, columns, s, in))
}

func wantMeant(t *testing.T, b base, l ask, want stream) {
	t.Helper()
	wantStream(t, fmt.Sprintf("Meant %q", impl.ShowAsk(l)), want, impl.Meant(b, l))
}

// A throughCase is columns, a sieve, what comes and what goes on, as words.
type throughCase struct{ columns, sieve, in, want string }

func wantCases(t *testing.T, cases ...throughCase) {
	t.Helper()
	for _, c := range cases {
		columns, s, in := strings.Fields(c.columns), sieveFrom(t, c.sieve), streamFrom(t, c.in)
		wantThrough(t, streamBase(), columns, s, in, streamFrom(t, c.want))
		wantSifted(t, streamBase(), columns, s, in)
	}
}

// A flow hands rows on, one by one, as long as they are taken, and answers
// what it ends with: FtNone where they are taken no more.
type flow func(take func(row) bool) int64

func flowOf(x stream) flow {
	return func(take func(row) bool) int64 {
		for _, r := range x.Rows {
			if !take(r) {
				return impl.FtNone
			}
		}
		return x.Fault
	}
}

func collected(f flow) stream {
	out := stream{}
	out.Fault = f(func(r row) bool {
		out.Rows = append(out.Rows, slices.Clone(r))
		return true
	})
	return out
}

func outcomeIn(l sum, columns []string, r row) outcome {
	tree, _ := treeOf(l)
	return tree.outcomeOf(valuesOf(columns, r))
}

func passesIn(l sum, columns []string, r row) (bool, int64) {
	x := outcomeIn(l, columns, r)
	if x.fault == impl.FtNone && x.cell.Kind != impl.CeTruth && x.cell.Kind != impl.CeNone {
		return false, impl.FtKind
	}
	return x == outcome{cell: truth(1)}, x.fault
}

// eachRow lets do take each row; what do ends with, if anything, ends it all.
func eachRow(from flow, do func(row) (bool, int64)) int64 {
	failed := int64(impl.FtNone)
	ended := from(func(r row) bool {
		more := false
		more, failed = do(r)
		return more && failed == impl.FtNone
	})
	return cmp.Or(failed, ended)
}

func whereFlow(columns []string, s impl.Sieve, from flow) flow {
	return func(take func(row) bool) int64 {
		return eachRow(from, func(r row) (bool, int64) {
			holds, fault := passesIn(s.Sum, columns, r)
			return fault == impl.FtNone && (!holds || take(r)), fault
		})
	}
}

func letFlow(columns []string, s impl.Sieve, from flow) flow {
	return func(take func(row) bool) int64 {
		return eachRow(from, func(r row) (bool, int64) {
			x := outcomeIn(s.Sum, columns, r)
			return x.fault == impl.FtNone && take(append(slices.Clone(r), x.cell)), x.fault
		})
	}
}

func keepFlow(columns []string, s impl.Sieve, from flow) flow {
	return func(take func(row) bool) int64 {
		return from(func(r row) bool { return take(namedCells(columns, s.Names, r)) })
	}
}

func namedCells(columns []string, names []string, r row) row {
	out, values := row{}, valuesOf(columns, r)
	for _, name := range names {
		out = append(out, values[name])
	}
	return out
}

func besideFlow(b base, columns []string, s impl.Sieve, from flow) flow {
	other := b[placeIn(b, s.Name)]
	wide := slices.Concat(columns, other.Columns)
	return func(take func(row) bool) int64 {
		made := 0
		hand := func(r row) (bool, int64) {
			if made++; made > 500 {
				return false, impl.FtMany
			}
			return take(r), impl.FtNone
		}
		return eachRow(from, func(r row) (bool, int64) {
			before := made
			for _, o := range other.Rows {
				holds, fault := passesIn(s.Sum, wide, slices.Concat(r, o))
				if fault != impl.FtNone {
					return false, fault
				}
				if !holds {
					continue
				}
				if more, fault := hand(slices.Concat(r, o)); !more {
					return false, fault
				}
			}
			if s.Kind == impl.SvLeft && made == before {
				return hand(append(slices.Clone(r), make(row, len(other.Columns))...))
			}
			return true, impl.FtNone
		})
	}
}

func limitFlow(s impl.Sieve, from flow) flow {
	return func(take func(row) bool) int64 {
		seen := int64(0)
		if s.Count == 0 {
			return impl.FtNone
		}
		return from(func(r row) bool {
			seen++
			return seen <= s.Skip || take(r) && seen < s.Skip+s.Count
		})
	}
}

func onceFlow(from flow) flow {
	return func(take func(row) bool) int64 {
		seen := map[string]bool{}
		return from(func(r row) bool {
			key := impl.RowText(r)
			again := seen[key]
			seen[key] = true
			return again || take(r)
		})
	}
}

func groupFlow(columns []string, s impl.Sieve, from flow) flow {
	return func(take func(row) bool) int64 {
		all, counts, keys := collected(from), map[string]int64{}, []row{}
		if len(s.Names) == 0 {
			keys = append(keys, row{})
		}
		for _, r := range all.Rows {
			key := namedCells(columns, s.Names, r)
			if counts[impl.RowText(key)]++; counts[impl.RowText(key)] == 1 && len(key) > 0 {
				keys = append(keys, key)
			}
		}
		if all.Fault != impl.FtNone {
			return all.Fault
		}
		for i, key := range keys {
			keys[i] = append(key, number(counts[impl.RowText(key)]))
		}
		return flowOf(stream{Rows: keys})(take)
	}
}

func orderFlow(columns []string, s impl.Sieve, from flow) flow {
	return func(take func(row) bool) int64 {
		all, at := collected(from), int64(slices.Index(columns, s.Name))
		if all.Fault != impl.FtNone {
			return all.Fault
		}
		slices.SortStableFunc(all.Rows, func(x row, y row) int {
			if s.Down {
				return rankAt(y, x, at)
			}
			return rankAt(x, y, at)
		})
		return flowOf(all)(take)
	}
}

// flowThrough is Through of what is right by another way: not list by list,
// but each row as far as it goes.
func flowThrough(b base, columns []string, s impl.Sieve, from flow) flow {
	switch s.Kind {
	case impl.SvWhere:
		return whereFlow(columns, s, from)
	case impl.SvLet:
		return letFlow(columns, s, from)
	case impl.SvKeep:
		return keepFlow(columns, s, from)
	case impl.SvJoin, impl.SvLeft:
		return besideFlow(b, columns, s, from)
	case impl.SvGroup:
		return groupFlow(columns, s, from)
	case impl.SvOrder:
		return orderFlow(columns, s, from)
	case impl.SvLimit:
		return limitFlow(s, from)
	}
	return onceFlow(from)
}

// wantSifted: Through of rows that fit the columns is what the other way says.
func wantSifted(t *testing.T, b base, columns []string, s impl.Sieve, in stream) stream {
	t.Helper()
	want := stream{Fault: impl.FtKind}
	if shapeByPlan(b, columns, s).code == impl.ShOk {
		want = collected(flowThrough(b, columns, s, flowOf(in)))
	}
	wantThrough(t, b, columns, s, in, want)
	return want
}

// wantFitting: each row has as many cells as there are columns, all of them
// right.
func wantFitting(t *testing.T, name string, columns []string, x stream) {
	t.Helper()
	for i, r := range x.Rows {
		if len(r) != len(columns) || slices.ContainsFunc(r, func(c impl.Cell) bool { return !impl.CellOk(c) }) {
			t.Errorf("%s: row %d is %+v; the columns are %q", name, i, r, columns)
		}
	}
}

// wantPromise12: what is Meant is Through Sieve by Sieve, and what another way
// says, and has ShapeOf's columns.
func wantPromise12(t *testing.T, b base, l ask) stream {
	t.Helper()
	columns, code := impl.ShapeOf(b, l)
	if code != impl.ShOk {
		wantMeant(t, b, l, stream{Fault: impl.FtKind})
		return stream{Fault: impl.FtKind}
	}
	x := b[placeIn(b, l[0].Name)]
	wide, out, last := x.Columns, stream{Rows: x.Rows}, flowOf(stream{Rows: x.Rows})
	wantMeant(t, b, l[:1], out)
	for i, s := range l[1:] {
		out, last = impl.Through(b, wide, s, out), flowThrough(b, wide, s, last)
		wide, _ = impl.ShapeOf(b, l[:i+2])
		wantMeant(t, b, l[:i+2], out)
		wantFitting(t, impl.ShowAsk(l[:i+2]), wide, out)
	}
	wantFitting(t, impl.ShowAsk(l), columns, impl.Meant(b, l))
	wantMeant(t, b, l, collected(last))
	return out
}

func wantMeants(t *testing.T, cases map[string]string) {
	t.Helper()
	for s, want := range cases {
		wantMeant(t, streamBase(), askFrom(t, s), streamFrom(t, want))
		wantPromise12(t, streamBase(), askFrom(t, s))
	}
}

func TestThroughOfEachKind(t *testing.T) {
	wantCases(t,
		throughCase{"a b", "where a < b", "", ""},
		throughCase{"a b", "where a < b", "1 5", "1 5"},
		throughCase{"a b", "where a < b", "3 2", ""},
		throughCase{"a b", "where a < b", "none 2", ""},
		throughCase{"a b", "where a < b", "1 5; 3 2; none 7; 2 3; 4 4; 0 9", "1 5; 2 3; 0 9"},
		throughCase{"a", "where a", "yes; no; none; yes", "yes; yes"},
		throughCase{"a", "where yes", "1; 2; 1", "1; 2; 1"},
		throughCase{"a", "where no", "1; 2; 1", ""},
		throughCase{"a", "where none", "1; 2; 1", ""},
		throughCase{"a b", "let x = a + b", "", ""},
		throughCase{"a b", "let x = a + b", "1 5", "1 5 6"},
		throughCase{"a b", "let x = a + b", "1 5; 3 2; none 7", "1 5 6; 3 2 5; none 7 none"},
		throughCase{"a b", "let x = b < a", "1 5; 3 2; none 7", "1 5 no; 3 2 yes; none 7 none"},
		throughCase{"a b", "let x = 'q'", "1 5; 1 5", "1 5 'q'; 1 5 'q'"},
		throughCase{"a b", "let x = b", "1 'q'; none yes", "1 'q' 'q'; none yes yes"},
		throughCase{"a b c", "keep b", "", ""},
		throughCase{"a b c", "keep b", "1 2 3", "2"},
		throughCase{"a b c", "keep c a", "1 2 3; none 'x' yes", "3 1; yes none"},
		throughCase{"a b c", "keep a b c", "1 2 3; 4 5 6", "1 2 3; 4 5 6"},
		throughCase{"a b c", "keep c b a", "1 2 3; 4 5 6", "3 2 1; 6 5 4"},
		throughCase{"a", "order a", "", ""},
		throughCase{"a", "order a", "2", "2"},
		throughCase{"a", "order a", "2; 1; 3", "1; 2; 3"},
		throughCase{"a", "once", "", ""},
		throughCase{"a", "once", "2", "2"},
		throughCase{"a", "once", "2; 1; 2; 2; 3; 1", "2; 1; 3"},
		throughCase{"a b", "once", "1 2; 2 1; 1 2; 1 none; 1 2; 1 none", "1 2; 2 1; 1 none"},
		throughCase{"a", "limit 2 1", "", ""},
		throughCase{"a", "limit 2 1", "1", ""},
		throughCase{"a", "limit 2 1", "1; 2; 3; 4; 5", "2; 3"},
		throughCase{"a b", "group a", "", ""},
		throughCase{"a b", "group a", "1 2", "1 1"},
		throughCase{"a b", "group a", "1 2; 2 2; 1 3", "1 2; 2 1"},
	)
}

func TestThroughOfJoins(t *testing.T) {
	wantCases(t,
		throughCase{"a b", "join u on c = a", "", ""},
		throughCase{"a b", "join u on c = a", "2 9", "2 9 2"},
		throughCase{"a b", "join u on c = a", "3 9", "3 9 3; 3 9 3"},
		throughCase{"a b", "join u on c = a", "1 9", ""},
		throughCase{"a b", "join u on c = a", "1 9; 3 8; 2 7; none 6; 3 5", "3 8 3; 3 8 3; 2 7 2; 3 5 3; 3 5 3"},
		throughCase{"a", "join u on a < c", "2; 1; 3", "2 3; 2 3; 1 2; 1 3; 1 3"},
		throughCase{"x", "join t on b < 6", "'x'; 'y'", "'x' 1 5; 'x' 3 2; 'y' 1 5; 'y' 3 2"},
		throughCase{"x", "join t on yes", "none", "none 1 5; none 3 2; none none 7"},
		throughCase{"x", "join t on none", "none; 2", ""},
		throughCase{"x", "join m on h", "1", "1 'x' yes !kind"},
		throughCase{"a b", "left u on c = a", "", ""},
		throughCase{"a b", "left u on c = a", "2 9", "2 9 2"},
		throughCase{"a b", "left u on c = a", "1 9", "1 9 none"},
		throughCase{"a b", "left u on c = a", "1 9; 3 8; 2 7; none 6; 3 5", "1 9 none; 3 8 3; 3 8 3; 2 7 2; none 6 none; 3 5 3; 3 5 3"},
		throughCase{"x", "left t on a = x", "1; 9; 3", "1 1 5; 9 none none; 3 3 2"},
		throughCase{"x", "left t on none", "none; 2", "none none none; 2 none none"},
		throughCase{"x", "left m on h", "1", "1 'x' yes !kind"},
	)
}

// A Table without rows: SvJoin has nothing to hand on, SvLeft has each Row
// with CeNones, and what the Sum would fail with is never met.
func TestJoinsOfATableWithoutRows(t *testing.T) {
	for _, on := range []string{"yes", "no", "d = a", "1 / 0 = 1", "'x' + 1", "7"} {
		wantCases(t,
			throughCase{"a", "join e on " + on, "", ""},
			throughCase{"a", "join e on " + on, "1; 2", ""},
			throughCase{"a", "join e on " + on, "1; 2 !over", "!over"},
			throughCase{"a", "left e on " + on, "", ""},
			throughCase{"a", "left e on " + on, "1; 2", "1 none none; 2 none none"},
			throughCase{"a", "left e on " + on, "1; 2 !over", "1 none none; 2 none none !over"},
		)
	}
	for _, s := range []string{"join e on d = a", "left e on d = a"} {
		in := stream{Rows: slices.Repeat([]row{{number(1)}}, 501), Fault: impl.FtZero}
		want := stream{Fault: impl.FtZero}
		if s[0] == 'l' {
			want = ending(slices.Repeat([]row{{number(1), {}, {}}}, 500), impl.FtMany)
		}
		wantThrough(t, streamBase(), []string{"a"}, sieveFrom(t, s), in, want)
	}
}

func TestTheFaultOfWhatComesIsHandedOn(t *testing.T) {
	for _, fault := range []int64{1, 2, 3, 4, 5, 99, -1, math.MinInt64, math.MaxInt64} {
		in := ending([]row{{number(2), number(1)}, {number(1), number(2)}, {number(2), number(1)}}, fault)
		for s, want := range map[string]string{
			"where a < b": "1 2", "where no": "", "let x = a": "2 1 2; 1 2 1; 2 1 2", "keep b": "1; 2; 1", "once": "2 1; 1 2",
			"join u on c = a": "2 1 2; 2 1 2", "join u on no": "", "left u on c = a": "2 1 2; 1 2 none; 2 1 2",
			"limit 4 0": "2 1; 1 2; 2 1", "limit 3 1": "1 2; 2 1", "limit 1 3": "", "limit 1000 1000": "",
			"group": "", "group a": "", "group b a": "", "order a": "", "order b down": "",
		} {
			wantThrough(t, streamBase(), letters(2), sieveFrom(t, s), in, ending(streamFrom(t, want).Rows, fault))
			wantSifted(t, streamBase(), letters(2), sieveFrom(t, s), in)
		}
		for _, s := range []string{"limit 3 0", "limit 2 1", "limit 1 2", "limit 0 0", "limit 0 3", "limit 0 4", "limit 0 1000"} {
			wantSifted(t, streamBase(), letters(2), sieveFrom(t, s), in)
			if got := impl.Through(streamBase(), letters(2), sieveFrom(t, s), in); got.Fault != impl.FtNone {
				t.Errorf("%s ends with %d", s, got.Fault)
			}
		}
	}
}

func TestSvLimit(t *testing.T) {
	wantCases(t,
		throughCase{"a", "limit 2 0", "1; 2; 3 !over", "1; 2"},
		throughCase{"a", "limit 3 0", "1; 2; 3 !over", "1; 2; 3"},
		throughCase{"a", "limit 4 0", "1; 2; 3 !over", "1; 2; 3 !over"},
		throughCase{"a", "limit 2 1", "1; 2; 3 !zero", "2; 3"},
		throughCase{"a", "limit 2 2", "1; 2; 3 !zero", "3 !zero"},
		throughCase{"a", "limit 1 2", "1; 2; 3 !kind", "3"},
		throughCase{"a", "limit 1 3", "1; 2; 3 !kind", "!kind"},
		throughCase{"a", "limit 1 4", "1; 2; 3 !kind", "!kind"},
		throughCase{"a", "limit 0 0", "1; 2; 3 !many", ""},
		throughCase{"a", "limit 0 3", "1; 2; 3 !many", ""},
		throughCase{"a", "limit 0 4", "1; 2; 3 !many", ""},
		throughCase{"a", "limit 0 0", "!many", ""},
		throughCase{"a", "limit 1 0", "!many", "!many"},
		throughCase{"a", "limit 5 5", "1; 2; 3", ""},
		throughCase{"a", "limit 1000 1000", "1; 2; 3", ""},
		throughCase{"a", "limit 1000 0", "1; 2; 3", "1; 2; 3"},
	)
	for rows := range 6 {
		for count := range int64(8) {
			for skip := range int64(8) {
				for fault := range int64(5) {
					in := ending(numbersUpTo(rows), fault)
					want := ending(in.Rows[min(rows, int(skip)):min(rows, int(skip+count))], fault)
					if len(want.Rows) == int(count) {
						want.Fault = impl.FtNone
					}
					wantThrough(t, nil, []string{"a"}, limitSieve(count, skip).sieve, in, want)
				}
			}
		}
	}
}

// numbersUpTo are rows of one number each, from 0 on.
func numbersUpTo(count int) []row {
	out := []row{}
	for n := range count {
		out = append(out, row{number(int64(n))})
	}
	return out
}

func TestSvLimitAtItsGreatest(t *testing.T) {
	for _, count := range []int{999, 1000, 1001, 1999, 2000, 2001} {
		in := ending(numbersUpTo(count), impl.FtOver)
		for _, s := range []impl.Sieve{limitSieve(1000, 0).sieve, limitSieve(1000, 1000).sieve, limitSieve(0, 1000).sieve, limitSieve(1, 1000).sieve} {
			wantSifted(t, nil, []string{"a"}, s, in)
		}
	}
	in := ending(numbersUpTo(2000), impl.FtOver)
	wantThrough(t, nil, []string{"a"}, limitSieve(1000, 1000).sieve, in, stream{Rows: numbersUpTo(2000)[1000:]})
	wantThrough(t, nil, []string{"a"}, limitSieve(1000, 1000).sieve, ending(in.Rows[:1999], impl.FtOver), ending(in.Rows[1000:1999], impl.FtOver))
}

func TestSvGroup(t *testing.T) {
	wantCases(t,
		throughCase{"a b", "group", "", "0"},
		throughCase{"a b", "group", "1 2", "1"},
		throughCase{"a b", "group", "1 2; 1 2; none yes", "3"},
		throughCase{"a b", "group", "!zero", "!zero"},
		throughCase{"a b", "group", "1 2 !zero", "!zero"},
		throughCase{"a b", "group a", "", ""},
		throughCase{"a b", "group a", "!zero", "!zero"},
		throughCase{"a b", "group a b", "", ""},
		throughCase{"a b", "group b", "1 2; 3 2; 1 4; 5 2", "2 3; 4 1"},
		throughCase{"a b", "group b a", "1 2; 1 3; 1 2; 2 1; 1 2", "2 1 3; 3 1 1; 1 2 1"},
		throughCase{"a b", "group a", "none 1; 0 1; no 1; '' 1; none 1; 'x' 1; yes 1; 0 1", "none 2; 0 2; no 1; '' 1; 'x' 1; yes 1"},
		throughCase{"a b", "group a b", "1 none; none 1; 1 none; none none", "1 none 2; none 1 1; none none 1"},
		throughCase{"a count", "group a", "1 7; 1 8", "1 2"},
		throughCase{"count", "group", "7; 8", "2"},
		throughCase{"a b c d e f", "group f d b a", "1 2 3 4 5 6; 1 2 0 4 0 6; 9 2 3 4 5 6", "6 4 2 1 2; 6 4 2 9 1"},
	)
	many := stream{Rows: slices.Repeat([]row{{number(1)}, {number(2)}, {number(1)}}, 400)}
	wantThrough(t, nil, []string{"a"}, groupSieve().sieve, many, stream{Rows: []row{{number(1200)}}})
	wantThrough(t, nil, []string{"a"}, groupSieve("a").sieve, many, stream{Rows: []row{{number(1), number(800)}, {number(2), number(400)}}})
}

func TestSvOrder(t *testing.T) {
	wantCases(t,
		throughCase{"a b", "order a", "2 0; 1 1; 2 2; 1 3; 0 4", "0 4; 1 1; 1 3; 2 0; 2 2"},
		throughCase{"a b", "order a down", "2 0; 1 1; 2 2; 1 3; 0 4", "2 0; 2 2; 1 1; 1 3; 0 4"},
		throughCase{"a b", "order b", "2 0; 1 1; 2 2; 1 3; 0 4", "2 0; 1 1; 2 2; 1 3; 0 4"},
		throughCase{"a b", "order b down", "2 0; 1 1; 2 2; 1 3; 0 4", "0 4; 1 3; 2 2; 1 1; 2 0"},
		throughCase{"a b", "order a", "7 3; 7 1; 7 2", "7 3; 7 1; 7 2"},
		throughCase{"a b", "order a down", "7 3; 7 1; 7 2", "7 3; 7 1; 7 2"},
		throughCase{"a", "order a", "yes; 'b'; 5; none; no; 'a'; -5; none", "none; none; -5; 5; 'a'; 'b'; no; yes"},
		throughCase{"a", "order a down", "yes; 'b'; 5; none; no; 'a'; -5; none", "yes; no; 'b'; 'a'; 5; -5; none; none"},
		throughCase{"a", "order a", "!over", "!over"},
		throughCase{"a", "order a", "2; 1 !over", "!over"},
		throughCase{"a", "order a down", "2; 1 !many", "!many"},
	)
	rows := stream{Rows: someRows()}
	wantThrough(t, nil, letters(2), orderSieve("a", false).sieve, rows, stream{Rows: impl.Sorted(someRows(), 0, false)})
	wantThrough(t, nil, letters(2), orderSieve("b", true).sieve, rows, stream{Rows: impl.Sorted(someRows(), 1, true)})
}

func TestSvOnce(t *testing.T) {
	wantCases(t,
		throughCase{"a", "once", "!over", "!over"},
		throughCase{"a", "once", "2; 2; 1; 2 !over", "2; 1 !over"},
		throughCase{"a", "once", "none; 0; no; ''; none; ''; no; 0; yes; 1", "none; 0; no; ''; yes; 1"},
		throughCase{"a b", "once", "1 none; none 1; 1 none; none none; none 1", "1 none; none 1; none none"},
	)
	in := ending(slices.Repeat(numbersUpTo(700), 2), impl.FtZero)
	wantThrough(t, nil, []string{"a"}, onceSieve().sieve, in, ending(numbersUpTo(700), impl.FtZero))
}

// Only SvJoin and SvLeft are bound by MaxMade.
func TestOtherSievesHandOnMoreThanMaxMade(t *testing.T) {
	in := ending(numbersUpTo(1100), impl.FtOver)
	for _, s := range []string{"where yes", "where a < 900", "let x = a + 1", "keep a", "once"} {
		if want := wantSifted(t, nil, []string{"a"}, sieveFrom(t, s), in); len(want.Rows) < 900 || want.Fault != impl.FtOver {
			t.Errorf("%s: %s", s, shownStream(want))
		}
	}
	whole := stream{Rows: in.Rows}
	wantThrough(t, nil, []string{"a"}, orderSieve("a", false).sieve, whole, whole)
	wantThrough(t, nil, []string{"a"}, limitSieve(1000, 50).sieve, in, stream{Rows: in.Rows[50:1050]})
}

// failingRows has count rows that are fine with "a / b < 100", at each of these
// places one that fails with that fault in its stead.
func failingRows(count int, fault int64, places ...int) []row {
	out := []row{}
	for n := range count {
		out = append(out, row{number(int64(n)), number(1)})
	}
	for _, at := range places {
		out[at] = []row{1: {number(-topNumber), number(1)}, 2: {number(1), number(0)}, 3: {text("x"), number(1)}}[fault]
	}
	return out
}

// A Fault in the first, a middle and the last Row: what is ahead of it was
// handed on, what is behind it is not asked for.
func TestAFaultInEachRow(t *testing.T) {
	made := map[string]func(row) []row{
		"where (a - 1) / b < 100":       func(r row) []row { return []row{r} },
		"where not ((a - 1) / b < 100)": func(row) []row { return nil },
		"let x = (a - 1) / b":           func(r row) []row { return []row{append(slices.Clone(r), number(r[0].Number-1))} },
		"join u on (a - 1) / b < 100":   func(r row) []row { return besideU(r, 2, 3, 3) },
		"join u on (a - 1) / b = c":     func(r row) []row { return besideU(r, uRowsOf(r[0].Number-1)...) },
		"left u on (a - 1) / b < 100":   func(r row) []row { return besideU(r, 2, 3, 3) },
		"left u on (a - 1) / b = c": func(r row) []row {
			if cells := uRowsOf(r[0].Number - 1); len(cells) > 0 {
				return besideU(r, cells...)
			}
			return []row{append(slices.Clone(r), impl.Cell{})}
		},
	}
	for s, makes := range made {
		for count := 1; count <= 6; count++ {
			for at := range count {
				for fault := int64(1); fault <= 3; fault++ {
					rows, want := failingRows(count, fault, at), stream{Fault: fault}
					for _, r := range rows[:at] {
						want.Rows = append(want.Rows, makes(r)...)
					}
					for later := range int64(5) {
						wantThrough(t, streamBase(), letters(2), sieveFrom(t, s), ending(rows, later), want)
						wantThrough(t, streamBase(), letters(2), sieveFrom(t, s), ending(append(rows, failingRows(1, 1+fault%3, 0)...), later), want)
					}
					wantSifted(t, streamBase(), letters(2), sieveFrom(t, s), ending(rows, impl.FtMany))
				}
			}
		}
	}
}

// besideU is the row with each of these numbers behind it.
func besideU(r row, cells ...int64) []row {
	out := []row{}
	for _, n := range cells {
		out = append(out, append(slices.Clone(r), number(n)))
	}
	return out
}

// uRowsOf are the rows of the Table u that have this number.
func uRowsOf(n int64) []int64 {
	return slices.DeleteFunc([]int64{2, 3, 3}, func(c int64) bool { return c != n })
}

// A Fault beside one of the other Table's Rows ends it there: what was made of
// that Row ahead of it was handed on, and no CeNones come behind it.
func TestAFaultBesideEachOtherRow(t *testing.T) {
	for at := range 4 {
		b := base{{Name: "u", Columns: []string{"c"}, Rows: []row{{number(1)}, {number(1)}, {number(1)}, {number(1)}}}}
		b[0].Rows[at] = row{number(0)}
		for _, kind := range []string{"join", "left"} {
			want := stream{Rows: slices.Repeat([]row{{number(7), number(1)}}, at), Fault: impl.FtZero}
			in := ending([]row{{number(7)}, {number(8)}}, impl.FtMany)
			wantThrough(t, b, []string{"a"}, sieveFrom(t, kind+" u on a / c = a"), in, want)
			wantThrough(t, b, []string{"a"}, sieveFrom(t, kind+" u on a / c < 0"), in, stream{Fault: impl.FtZero})
			wantSifted(t, b, []string{"a"}, sieveFrom(t, kind+" u on a / c = a"), in)
		}
	}
}

// What comes to no CeTruth and no CeNone is a fault where it must Pass.
func TestWhatCannotPass(t *testing.T) {
	wantCases(t,
		throughCase{"a", "where a", "yes; 5; yes", "yes !kind"},
		throughCase{"a", "where a", "none; 'x'; yes", "!kind"},
		throughCase{"a", "where 5", "1; 2", "!kind"},
		throughCase{"a", "where 5", "!over", "!over"},
		throughCase{"a", "join u on c", "1", "!kind"},
		throughCase{"a", "left u on c", "1", "!kind"},
		throughCase{"a", "join u on a", "yes; 5", "yes 2; yes 3; yes 3 !kind"},
		throughCase{"a", "left u on a", "no; 5", "no none !kind"},
		throughCase{"a", "let x = 5", "1; 2", "1 5; 2 5"},
	)
}

// countBase has a Table u of 60 rows, with the numbers 0 to 59: on c < a there
// are a rows of it beside a row.
func countBase() base {
	return base{{Name: "u", Columns: []string{"c"}, Rows: numbersUpTo(60)}}
}

// besideCounts is what SvJoin on c < a makes of rows with these numbers.
func besideCounts(counts ...int64) []row {
	out := []row{}
	for _, n := range counts {
		for c := range n {
			out = append(out, row{number(n), number(c)})
		}
	}
	return out
}

func countRows(counts ...int64) []row {
	out := []row{}
	for _, n := range counts {
		out = append(out, row{number(n)})
	}
	return out
}

func TestMaxMadeAndOneMore(t *testing.T) {
	eight := slices.Repeat([]int64{60}, 8)
	upTo := func(more ...int64) []int64 { return slices.Concat(eight, more) }
	for _, c := range []struct {
		counts []int64
		rows   int
		many   bool
	}{
		{upTo(19), 499, false}, {upTo(20), 500, false}, {upTo(21), 500, true}, {upTo(19, 1), 500, false}, {upTo(20, 1), 500, true}, {upTo(19, 2), 500, true},
		{upTo(60), 500, true}, {upTo(20, 0, 0, 0), 500, false}, {upTo(20, 0, 0, 1), 500, true}, {upTo(0, 20), 500, false}, {slices.Repeat([]int64{1}, 500), 500, false},
		{slices.Repeat([]int64{1}, 501), 500, true}, {slices.Repeat([]int64{60}, 60), 500, true}, {slices.Repeat([]int64{25}, 20), 500, false}, {slices.Repeat([]int64{0}, 900), 0, false},
	} {
		for fault := range int64(5) {
			want := ending(besideCounts(c.counts...)[:c.rows], fault)
			if c.many {
				want.Fault = impl.FtMany
			}
			in := ending(countRows(c.counts...), fault)
			wantThrough(t, countBase(), []string{"a"}, sieveFrom(t, "join u on c < a"), in, want)
			wantSifted(t, countBase(), []string{"a"}, sieveFrom(t, "left u on c < a"), in)
		}
	}
}

// Of SvLeft a Row of which none Passes is one more, too.
func TestMaxMadeOfSvLeft(t *testing.T) {
	left, nones := sieveFrom(t, "left u on c < a"), row{number(0), {}}
	full := append(slices.Repeat([]int64{60}, 8), 19)
	made := append(besideCounts(full...), nones)
	in := func(counts ...int64) stream { return ending(countRows(slices.Concat(full, counts)...), impl.FtOver) }
	wantThrough(t, countBase(), []string{"a"}, left, in(), ending(made[:499], impl.FtOver))
	wantThrough(t, countBase(), []string{"a"}, left, in(0), ending(made, impl.FtOver))
	wantThrough(t, countBase(), []string{"a"}, left, in(0, 0), ending(made, impl.FtMany))
	wantThrough(t, countBase(), []string{"a"}, left, in(0, 1), ending(made, impl.FtMany))
	wantThrough(t, countBase(), []string{"a"}, left, in(1), ending(append(made[:499:499], row{number(1), number(0)}), impl.FtOver))
	wantThrough(t, countBase(), []string{"a"}, left, in(1, 0), ending(append(made[:499:499], row{number(1), number(0)}), impl.FtMany))
	wantThrough(t, countBase(), []string{"a"}, left, in(2), ending(append(made[:499:499], row{number(2), number(0)}), impl.FtMany))
	zeros := slices.Repeat([]row{{number(0)}}, 501)
	wantThrough(t, countBase(), []string{"a"}, left, stream{Rows: zeros[:500]}, stream{Rows: slices.Repeat([]row{nones}, 500)})
	wantThrough(t, countBase(), []string{"a"}, left, stream{Rows: zeros}, ending(slices.Repeat([]row{nones}, 500), impl.FtMany))
}

// Behind MaxMade rows it is FtMany or another fault, whichever comes first.
func TestMaxMadeBesideAFault(t *testing.T) {
	full := countRows(append(slices.Repeat([]int64{60}, 8), 20)...)
	made := besideCounts(append(slices.Repeat([]int64{60}, 8), 20)...)
	for _, kind := range []string{"join", "left"} {
		s := sieveFrom(t, kind+" u on c < a")
		strange := row{text("x")}
		wantThrough(t, countBase(), []string{"a"}, s, stream{Rows: append(full[:9:9], strange)}, ending(made, impl.FtKind))
		wantThrough(t, countBase(), []string{"a"}, s, stream{Rows: append(full[:9:9], strange, row{number(1)})}, ending(made, impl.FtKind))
		wantThrough(t, countBase(), []string{"a"}, s, stream{Rows: append(full[:9:9], row{number(1)}, strange)}, ending(made, impl.FtMany))
		wantThrough(t, countBase(), []string{"a"}, s, stream{Rows: append(full[:8:8], strange)}, ending(made[:480], impl.FtKind))
	}
}

// Within one Row: where c is b it fails, up to there each c below a makes one.
func TestMaxMadeBesideAFaultWithinARow(t *testing.T) {
	for _, c := range []struct {
		a, b  int64
		rows  int
		fault int64
	}{
		{19, 20, 499, impl.FtZero}, {20, 20, 500, impl.FtZero}, {60, 20, 500, impl.FtZero}, {60, 21, 500, impl.FtMany}, {60, 19, 499, impl.FtZero},
		{60, 0, 480, impl.FtZero}, {60, 59, 500, impl.FtMany}, {20, 59, 500, impl.FtZero}, {21, 59, 500, impl.FtMany}, {20, -1, 500, impl.FtOver}, {60, -1, 500, impl.FtMany},
	} {
		for _, kind := range []string{"join", "left"} {
			s := sieveFrom(t, kind+" u on c < a and 100 / (c - b) < 1000")
			in := ending(append(slices.Repeat([]row{{number(60), number(-1)}}, 8), row{number(c.a), number(c.b)}), impl.FtOver)
			got := wantSifted(t, countBase(), letters(2), s, in)
			if len(got.Rows) != c.rows || got.Fault != c.fault {
				t.Errorf("%s of %v: %d rows and %d", kind, c, len(got.Rows), got.Fault)
			}
		}
	}
}

func TestMeantOfSvFromAlone(t *testing.T) {
	for _, x := range streamBase() {
		wantMeant(t, streamBase(), ask{fromSieve(x.Name).sieve}, stream{Rows: x.Rows})
	}
	for name, b := range rightBases() {
		for _, x := range b {
			want := stream{Rows: x.Rows}
			if slices.Contains(barredWords(), x.Name) {
				want = stream{Fault: impl.FtKind}
			}
			wantStream(t, name, want, impl.Meant(b, ask{{Kind: impl.SvFrom, Name: x.Name}}))
		}
	}
}

func TestMeantOfSeveralSieves(t *testing.T) {
	wantMeants(t, map[string]string{
		"from t":               "1 5; 3 2; none 7",
		"from e":               "",
		"from e | group":       "0",
		"from e | group d":     "",
		"from e | order d":     "",
		"from e | once":        "",
		"from e | where 1 / 0": "",
		"from t | where a < 3 | let x = a + b | keep x":             "6",
		"from t | join u on c = a | keep b c":                       "2 3; 2 3",
		"from t | join u on c = a | keep b c | once":                "2 3",
		"from t | left u on c = a | keep b c":                       "5 none; 2 3; 2 3; 7 none",
		"from t | left u on c = a | where lacks c | keep b":         "5; 7",
		"from t | let x = b / (a - 3) | keep x":                     "-2 !zero",
		"from t | let x = b / (a - 3) | keep x | limit 1 0":         "-2",
		"from t | let x = b / (a - 3) | keep x | limit 2 0":         "-2 !zero",
		"from t | let x = b / (a - 3) | limit 0 5":                  "",
		"from t | let x = b / (a - 3) | limit 1 1":                  "!zero",
		"from t | let x = b / (a - 3) | order x":                    "!zero",
		"from t | let x = b / (a - 3) | group":                      "!zero",
		"from t | let x = b / (a - 3) | group | limit 0 0":          "",
		"from t | let x = b / (a - 3) | once":                       "1 5 -2 !zero",
		"from t | let x = b / (a - 3) | join u on no":               "!zero",
		"from t | let x = b / (a - 3) | where 'x' + 1":              "!kind",
		"from t | limit 1 0 | let x = b / (a - 3)":                  "1 5 -2",
		"from t | limit 2 1 | let x = b / (a - 3)":                  "!zero",
		"from t | where not a = 3 | let x = b / (a - 3)":            "1 5 -2",
		"from t | where lacks a or a < 3 | let x = b / (a - 3)":     "1 5 -2; none 7 none",
		"from t | group | keep count":                               "3",
		"from t | where no | group":                                 "0",
		"from t | where no | group a":                               "",
		"from t | group | group":                                    "1",
		"from t | group | let x = count | group x | group x":        "3 1",
		"from t | order b down | limit 2 0 | keep b":                "7; 5",
		"from t | order a | limit 1 0":                              "none 7",
		"from t | order b | order a down":                           "3 2; 1 5; none 7",
		"from u | let x = 1 | keep x | once":                        "1",
		"from u | once | group":                                     "2",
		"from u | group c | order c down":                           "3 2; 2 1",
		"from u | group c | where 1 < count | keep c":               "3",
		"from u | join t on a < c | group c | keep count c":         "1 2; 2 3",
		"from m | order g | keep g":                                 "none; -3; 5; 'x'",
		"from m | order h down | limit 2 1 | keep h":                "no; 'x'",
		"from m | where h":                                          "'x' yes !kind",
		"from m | where h | limit 1 0":                              "'x' yes",
		"from m | where lacks g | let x = g + 1 | keep x":           "none",
		"from m | left u on g < c":                                  "!kind",
		"from m | limit 2 1 | left u on g < c | keep g c":           "5 none; none none",
		"from m | limit 1 3 | let x = g - 1000000000":               "!over",
		"from t | join e on yes":                                    "",
		"from t | left e on yes | keep d b":                         "none 5; none 2; none 7",
		"from t | keep b | let a = b | keep a b | order a":          "2 2; 5 5; 7 7",
		"from w | keep x | join t on a = x or x = 0 | keep a b x":   "1 5 0; 3 2 0; none 7 0",
		"from w | keep x | join t on x = 0 | keep a b x":            "1 5 0; 3 2 0; none 7 0",
		"from w | group z | join w on yes":                          "!kind",
		"from x":                                                    "!kind",
		"from t | limit 5 0 | limit 4 1 | limit 3 1 | limit 0 1000": "",
	})
}

// Of 60 by 60 rows MaxMade are made; who asks for no more of them does not see
// the end.
func TestMeantAtMaxMade(t *testing.T) {
	b := base{{Name: "t", Columns: []string{"a"}, Rows: numbersUpTo(60)}, {Name: "u", Columns: []string{"b"}, Rows: numbersUpTo(60)}, {Name: "v", Columns: []string{"c"}, Rows: numbersUpTo(50)}, {Name: "w", Columns: []string{"d"}, Rows: numbersUpTo(10)}}
	for s, want := range map[string]struct {
		rows  int
		fault int64
	}{
		"from t | join u on yes": {500, impl.FtMany}, "from t | left u on yes": {500, impl.FtMany}, "from v | join w on yes": {500, impl.FtNone}, "from w | left v on yes": {500, impl.FtNone},
		"from t | join w on yes": {500, impl.FtMany}, "from t | join w on a < 50": {500, impl.FtNone}, "from t | left w on a < 50": {500, impl.FtMany}, "from t | join u on a = b": {60, impl.FtNone},
		"from t | join u on yes | limit 499 0": {499, impl.FtNone}, "from t | join u on yes | limit 500 0": {500, impl.FtNone}, "from t | join u on yes | limit 501 0": {500, impl.FtMany},
		"from t | join u on yes | limit 1 499": {1, impl.FtNone}, "from t | join u on yes | limit 1 500": {0, impl.FtMany}, "from t | join u on yes | limit 0 1000": {0, impl.FtNone},
		"from t | join u on yes | group": {0, impl.FtMany}, "from t | join u on yes | group a": {0, impl.FtMany}, "from t | join u on yes | order a": {0, impl.FtMany}, "from t | join u on yes | order b | limit 0 0": {0, impl.FtNone},
		"from t | join u on yes | where a < 2": {120, impl.FtMany}, "from t | join u on yes | keep a | once": {9, impl.FtMany}, "from v | join w on yes | group": {1, impl.FtNone}, "from v | join w on yes | keep d | once": {10, impl.FtNone},
		"from t | join u on yes | join w on d = 0": {500, impl.FtMany}, "from t | join u on a = b | join w on yes": {500, impl.FtMany}, "from t | join u on a = b | limit 50 0 | join w on yes": {500, impl.FtNone},
		"from t | join u on yes | join v on no": {0, impl.FtMany}, "from t | join u on yes | left v on no": {500, impl.FtMany}, "from t | join u on yes | join v on 1 / (c - 3) < 5": {3, impl.FtZero},
		"from t | join u on a < 8 or b < 20 and a = 8": {500, impl.FtNone}, "from t | join u on a < 8 or b < 21 and a = 8": {500, impl.FtMany},
	} {
		got := wantPromise12(t, b, askFrom(t, s))
		if len(got.Rows) != want.rows || got.Fault != want.fault {
			t.Errorf("%s: %d rows and %d; want %v", s, len(got.Rows), got.Fault, want)
		}
	}
}

// streamPieces are Sieves whose names are those of the base of streams.
func streamPieces() []string {
	return []string{
		"where a < 3", "where b < a or lacks a", "where h", "where not c = 3", "where count < 2", "where lacks x", "where 7 / (b - 2) < 9", "where yes", "where no", "where 5",
		"let x = a + b", "let x = c * 500000000", "let x = b / (a - 3)", "let y = lacks a", "let a = c", "let b = 'x'", "let i = none", "let j = g + 1", "let count = 4",
		"keep a", "keep b a", "keep c", "keep count", "keep x a", "keep h g", "keep p x", "keep c b a",
		"join t on a = c", "join t on yes", "join u on c = a", "join u on b < c", "join m on yes", "join m on g", "join e on yes",
		"left t on a = c", "left u on c = a", "left u on no", "left m on lacks g", "left m on h", "left e on d = 1", "left u on a / (c - 3) < 9",
		"group", "group a", "group b a", "group c", "group h", "order a", "order b down", "order c", "order x", "order h down", "order count",
		"limit 2 0", "limit 1 1", "limit 0 0", "limit 5 2", "limit 1 9", "once",
	}
}

func streamSieves(t *testing.T) ask {
	out := ask{}
	for _, piece := range streamPieces() {
		out = append(out, sieveFrom(t, piece))
	}
	return out
}

func TestPromise12OfAllShortQuestions(t *testing.T) {
	for _, from := range []string{"e", "m", "t", "u", "w", "x"} {
		for _, l := range allLists(2, streamSieves(t)...) {
			wantPromise12(t, streamBase(), append(ask{fromSieve(from).sieve}, l...))
		}
	}
}

// longBase is as streamBase, with more rows, most of them numbers.
func longBase() base {
	b, d := streamBase(), &dice{17}
	for i := range b[1:] {
		x := &b[1+i]
		for range 8 {
			r := row{}
			for range x.Columns {
				r = append(r, number(int64(d.below(9)-1)))
			}
			x.Rows = append(x.Rows, r)
		}
	}
	return b
}

// luckyAsk is a question of that many Sieves, most of which go on behind one
// another.
func luckyAsk(d *dice, b base, sieves ask, size int) ask {
	x := b[d.below(len(b))]
	l, columns := ask{fromSieve(x.Name).sieve}, x.Columns
	for len(l) < size {
		s := luckySieve(d, b, columns, sieves)
		l = append(l, s)
		if next := shapeByPlan(b, columns, s); next.code == impl.ShOk {
			columns = next.columns
		}
	}
	return l
}

// lively are those of these Sieves behind which there is mostly something.
func lively(sieves ask) ask {
	dull := []string{"where no", "where 5", "where h", "join e on yes", "join m on g", "left m on h", "group", "limit 1 1", "limit 0 0", "limit 1 9", "limit 2 0"}
	return slices.DeleteFunc(slices.Clone(sieves), func(s impl.Sieve) bool {
		return slices.Contains(dull, strings.TrimPrefix(impl.ShowAsk(ask{fromSieve("t").sieve, s}), "from t | "))
	})
}

func TestPromise12OfLongQuestions(t *testing.T) {
	d, b, sieves, ends, some := &dice{12}, longBase(), streamSieves(t), map[int64]int{}, 0
	for n := range 4000 {
		if n == 1000 {
			sieves = lively(sieves)
		}
		got := wantPromise12(t, b, luckyAsk(d, b, sieves, 1+n%impl.MaxSieves))
		if ends[got.Fault]++; len(got.Rows) > 1 && n%impl.MaxSieves > 2 {
			some++
		}
	}
	if some < 300 {
		t.Errorf("several rows come %d times: too few to tell", some)
	}
	for fault := range int64(impl.FtMany) {
		if ends[fault] < 40 {
			t.Errorf("the fault %d comes %d times: too few to tell", fault, ends[fault])
		}
	}
}

// mixedStream has rows of right cells, most of them numbers.
func mixedStream(d *dice, width int, count int) stream {
	out := stream{}
	cells := slices.Concat(allRight(), []impl.Cell{number(1), number(2), number(3), number(3), number(4), number(5), number(1), number(2), number(3), {}, {}})
	for range count {
		r := row{}
		for range width {
			r = append(r, cells[d.below(len(cells))])
		}
		out.Rows = append(out.Rows, r)
	}
	return out
}

func TestThroughOfMixedStreams(t *testing.T) {
	d := &dice{13}
	for _, columns := range [][]string{{"a", "b"}, {"c"}, {"c", "b", "a"}, {"g", "h", "a"}, {"count", "c", "x"}, {"x", "p"}} {
		for _, s := range streamSieves(t) {
			for count := range 12 {
				in := mixedStream(d, len(columns), count)
				in.Fault = int64(d.below(3) * d.below(3))
				wantSifted(t, streamBase(), columns, s, in)
			}
		}
	}
}

// remembersNothing are the Kinds of Sieves that make of each Row what they
// make of it alone.
func remembersNothing(s impl.Sieve) bool {
	return slices.Contains([]int64{impl.SvWhere, impl.SvLet, impl.SvKeep, impl.SvJoin, impl.SvLeft}, s.Kind)
}

// behind is the one stream, and where that does not end with a fault the other
// one behind it.
func behind(one stream, other stream) stream {
	if one.Fault != impl.FtNone {
		return one
	}
	return ending(slices.Concat(one.Rows, other.Rows), other.Fault)
}

// wantTwo: of two Streams one behind the other, a Sieve that remembers nothing
// makes two.
func wantTwo(t *testing.T, b base, columns []string, s impl.Sieve, one stream, other stream) {
	t.Helper()
	want := behind(impl.Through(b, columns, s, one), impl.Through(b, columns, s, other))
	wantThrough(t, b, columns, s, behind(one, other), want)
}

func TestPromise12TwoStreamsOneBehindTheOther(t *testing.T) {
	d := &dice{14}
	for _, columns := range [][]string{{"a", "b"}, {"c", "b"}, {"g", "h", "a"}, {"count", "c"}} {
		for _, s := range streamSieves(t) {
			if !remembersNothing(s) || shapeByPlan(streamBase(), columns, s).code != impl.ShOk {
				continue
			}
			for count := range 7 {
				in := mixedStream(d, len(columns), count)
				for at := range count + 1 {
					for fault := range int64(5) {
						wantTwo(t, streamBase(), columns, s, stream{Rows: in.Rows[:at]}, ending(in.Rows[at:], fault))
						wantTwo(t, streamBase(), columns, s, ending(in.Rows[:at], fault), stream{Rows: in.Rows[at:]})
					}
				}
			}
		}
	}
}

// Row by row: what comes of all is what comes of each one, up to the first that
// fails.
func TestPromise12RowsComeThroughOneByOne(t *testing.T) {
	d := &dice{15}
	for _, piece := range []string{"where a < b", "where a", "let x = a + b", "keep b", "join u on c = a", "join m on h", "left u on c = a", "left u on a / (c - 3) < b", "left e on no"} {
		s := sieveFrom(t, piece)
		for count := range 9 {
			in, want := mixedStream(d, 2, count), stream{}
			in.Fault = impl.FtMany
			for _, r := range in.Rows {
				want = behind(want, impl.Through(streamBase(), letters(2), s, stream{Rows: []row{r}}))
			}
			wantThrough(t, streamBase(), letters(2), s, in, behind(want, stream{Fault: impl.FtMany}))
		}
	}
}

func TestSameStream(t *testing.T) {
	different := []stream{
		{}, {Fault: 1}, {Fault: 2}, {Fault: -1}, {Fault: 99}, {Rows: []row{{}}}, {Rows: []row{{}, {}}}, {Rows: []row{{{}}}}, {Rows: []row{{{}, {}}}}, {Rows: []row{{{}}, {{}}}},
		{Rows: []row{{number(1)}}}, ending([]row{{number(1)}}, 1), ending([]row{{number(1)}}, 3), {Rows: []row{{number(2)}}}, {Rows: []row{{truth(1)}}}, {Rows: []row{{text("a")}}}, {Rows: []row{{text("b")}}}, {Rows: []row{{text("")}}}, {Rows: []row{{number(0)}}}, {Rows: []row{{truth(0)}}},
		{Rows: []row{{number(1)}, {number(2)}}}, {Rows: []row{{number(2)}, {number(1)}}}, {Rows: []row{{number(1), number(2)}}}, {Rows: []row{{number(1)}, {number(2)}, {number(2)}}}, {Rows: []row{{number(1)}, {number(1)}, {number(2)}}}, {Rows: []row{{number(1)}, {}, {number(2)}}},
		{Rows: []row{{number(1), number(2)}, {number(3)}}}, {Rows: []row{{number(1)}, {number(2), number(3)}}},
	}
	for _, c := range wrongCells() {
		different = append(different, stream{Rows: []row{{c}}})
	}
	for i, a := range different {
		for k, b := range different {
			b.Rows = roomy(b.Rows)
			if impl.SameStream(a, b) != (i == k) {
				t.Errorf("SameStream of %+v and %+v: want %v", a, b, i == k)
			}
		}
	}
	if !impl.SameStream(stream{}, stream{Rows: []row{}}) || !impl.SameStream(stream{Rows: []row{}}, stream{}) || !impl.SameStream(stream{Rows: []row{nil}}, stream{Rows: []row{{}}}) {
		t.Error("an empty list and nil are the same")
	}
}

// Each cell of each row counts.
func TestSameStreamOfOneOtherCell(t *testing.T) {
	for width := 1; width <= 6; width++ {
		for i := range 20 {
			for k := range width {
				one, other := stream{Rows: mixedTable(width, 20).Rows}, stream{Rows: mixedTable(width, 20).Rows}
				wantStream(t, "like ones", one, other)
				other.Rows[i][k].Number += 7
				if impl.SameStream(one, other) || impl.SameStream(other, one) {
					t.Errorf("cell %d of row %d does not count", k, i)
				}
			}
		}
	}
}

// The answer to all that is not right is no Rows and FtKind, whatever else
// there is.
func wantRefused(t *testing.T, b base, columns []string, s impl.Sieve, rows ...row) {
	t.Helper()
	for fault := range int64(5) {
		wantThrough(t, b, columns, s, ending(rows, fault), stream{Fault: impl.FtKind})
	}
}

func TestThroughWhereTheShapeIsNotOk(t *testing.T) {
	fit := []row{{number(1), number(2)}, {number(3), {}}}
	for _, s := range wrongSieves() {
		wantRefused(t, streamBase(), letters(2), s, fit...)
	}
	for _, s := range oneWrong() {
		wantRefused(t, streamBase(), letters(2), s)
		wantRefused(t, streamBase(), letters(2), s, fit...)
	}
	for _, x := range streamBase() {
		wantRefused(t, streamBase(), x.Columns, fromSieve(x.Name).sieve, x.Rows...)
	}
	for _, piece := range []string{
		"join x on yes", "left x on yes", "join t on yes", "left t on yes", "let a = 5", "let b = a", "where x", "let x = y", "keep x", "keep a x", "join u on x", "left u on x",
		"group x", "group a x", "order x", "order x down", "join w on yes", "left w on yes", "group count",
	} {
		wantRefused(t, streamBase(), letters(2), sieveFrom(t, piece), fit...)
		wantRefused(t, streamBase(), letters(2), sieveFrom(t, piece))
	}
	wantRefused(t, streamBase(), []string{"a", "count"}, groupSieve("count").sieve, fit...)
	wantRefused(t, streamBase(), letters(6), letSieve("x", nameSum("a")).sieve, mixedRow(3, 6))
}

func TestThroughOfWrongColumnsAndBases(t *testing.T) {
	once, keep, none := onceSieve().sieve, keepSieve("a").sieve, limitSieve(0, 0).sieve
	for _, columns := range [][]string{nil, {}, {"a", "a"}, {"a", "b", "a"}, letters(7), {"a", ""}, {"a", "A"}, {"a", "abcdefg"}} {
		for _, s := range (ask{once, keep, none, groupSieve().sieve}) {
			wantRefused(t, streamBase(), columns, s)
			wantRefused(t, streamBase(), columns, s, mixedRow(2, len(columns)), mixedRow(3, len(columns)))
		}
	}
	for name, b := range wrongBases() {
		for _, s := range (ask{once, keep, none, joinSieve("t", nameSum("x")).sieve}) {
			got := impl.Through(b, []string{"a"}, s, stream{Rows: []row{{number(1)}}})
			wantStream(t, name, stream{Fault: impl.FtKind}, got)
		}
	}
}

// A row that does not fit is refused wherever it stands, be it one that would
// never be asked for.
func TestThroughOfRowsThatDoNotFit(t *testing.T) {
	wrong := []row{nil, {}, {number(1)}, {number(1), number(2), number(3)}, mixedRow(3, 6), make(row, 300)}
	for _, c := range wrongCells() {
		wrong = append(wrong, row{c, number(1)}, row{number(1), c}, row{c, c})
	}
	sieves := ask{}
	for _, piece := range []string{
		"where a < b", "where no", "where 1 / 0", "let x = a", "let x = 5", "keep a", "keep b", "join u on c = a", "join e on yes", "left u on no", "left e on no",
		"group", "group a", "order a", "order b down", "limit 0 0", "limit 1 0", "limit 0 1000", "limit 1 1000", "once",
	} {
		sieves = append(sieves, sieveFrom(t, piece))
	}
	for _, s := range sieves {
		for _, r := range wrong {
			wantRefused(t, streamBase(), letters(2), s, r)
			for at := range 4 {
				rows := slices.Insert([]row{{number(1), number(2)}, {text("x"), number(0)}, {{}, {}}}, at, r)
				wantRefused(t, streamBase(), letters(2), s, rows...)
			}
		}
	}
	for width := 1; width <= 6; width++ {
		for have := range 9 {
			if have != width {
				wantRefused(t, streamBase(), letters(width), limitSieve(5, 0).sieve, mixedRow(have, have))
			}
		}
		wantThrough(t, nil, letters(width), limitSieve(5, 0).sieve, stream{Rows: []row{mixedRow(3, width)}}, stream{Rows: []row{mixedRow(3, width)}})
	}
}

func TestMeantWhereTheShapeIsNotOk(t *testing.T) {
	refused := stream{Fault: impl.FtKind}
	from, once := fromSieve("t").sieve, onceSieve().sieve
	for _, l := range []ask{nil, {}, {once}, {once, from}, {from, from}, {{}}, {{Kind: impl.SvFrom}}, {{Kind: 99, Name: "t"}}, append(ask{from}, slices.Repeat(ask{once}, 8)...)} {
		wantMeant(t, streamBase(), l, refused)
		wantMeant(t, nil, l, refused)
	}
	for _, s := range slices.Concat(wrongSieves(), oneWrong()) {
		wantMeant(t, streamBase(), ask{from, s}, refused)
		wantMeant(t, streamBase(), ask{from, once, s, limitSieve(0, 0).sieve}, refused)
	}
	for _, pieces := range codedPieces() {
		for _, piece := range pieces {
			for _, s := range []string{"from t | " + piece, "from t | where no | " + piece, "from t | limit 0 0 | " + piece + " | limit 0 0", "from t | let i = 1 / 0 | keep a b | " + piece} {
				if l := askFrom(t, s); shapeOf(shapeBase(), l).code != impl.ShOk {
					wantMeant(t, shapeBase(), l, refused)
				} else {
					t.Errorf("%q is of a shape", s)
				}
			}
		}
	}
	for name, b := range wrongBases() {
		for _, s := range []string{"from t", "from a", "from t | once", "from b | group"} {
			wantStream(t, name, refused, impl.Meant(b, askFrom(t, s)))
		}
	}
	wantMeant(t, nil, ask{from}, refused)
	wantMeant(t, streamBase(), append(ask{from}, slices.Repeat(ask{once}, 7)...), stream{Rows: streamBase()[2].Rows})
}

func streamSpans(what string, x stream) []span {
	return tableSpans(what, impl.Table{Rows: x.Rows})
}

func copiedStream(x stream) stream {
	out := stream{Fault: x.Fault}
	for _, r := range x.Rows {
		out.Rows = append(out.Rows, slices.Clone(r))
	}
	return out
}

func scribbleStream(x stream) {
	for i, r := range x.Rows[:cap(x.Rows)] {
		scribble(r)
		x.Rows[:cap(x.Rows)][i] = row{number(-99)}
	}
}

// A givenThrough is all that Through, Meant and SameStream are given.
type givenThrough struct {
	b       base
	columns []string
	l       ask
	in      stream
}

func (g givenThrough) roomy() givenThrough {
	return givenThrough{roomyBase(g.b), roomyColumns(g.columns), roomyAsk(g.l), ending(roomy(g.in.Rows), g.in.Fault)}
}

func (g givenThrough) whole() givenThrough {
	return givenThrough{wholeBase(g.b), slices.Clone(g.columns[:cap(g.columns)]), wholeAsk(g.l), ending(wholeRows(g.in.Rows), g.in.Fault)}
}

func (g givenThrough) spans() []span {
	return slices.Concat(baseSpans("the base", g.b), askSpans("the question", g.l), streamSpans("what comes", g.in), []span{spanOf("the columns", g.columns)})
}

func (g givenThrough) answers() []stream {
	out := []stream{impl.Meant(g.b, g.l), impl.Meant(g.b, g.l)}
	for _, s := range g.l {
		out = append(out, impl.Through(g.b, g.columns, s, g.in), impl.Through(g.b, g.columns, s, g.in))
	}
	for _, x := range out {
		impl.SameStream(x, g.in)
		impl.SameStream(g.in, x)
	}
	return out
}

func sameGiven(a givenThrough, b givenThrough) bool {
	return reflect.DeepEqual(a.b, b.b) && slices.Equal(a.columns, b.columns) && slices.EqualFunc(a.l, b.l, sameSieve) && reflect.DeepEqual(a.in, b.in)
}

// wantNewStreams: all three leave what they are given, with its spare room, as
// it is, and no list of their answers shares memory with any other one.
func wantNewStreams(t *testing.T, g givenThrough) {
	t.Helper()
	name, before := impl.ShowAsk(g.l), g.whole()
	answers, spans, want := g.answers(), []span{}, []stream{}
	for i, x := range answers {
		spans = append(spans, streamSpans(fmt.Sprint("answer ", i), x)...)
		want = append(want, copiedStream(x))
	}
	wantApart(t, name, spans, g.spans())
	if !sameGiven(before, g.whole()) {
		t.Errorf("%q: one of the three writes into what it was given", name)
	}
	for i, x := range answers {
		scribbleStream(x)
		if !slices.EqualFunc(answers[i+1:], want[i+1:], sameStream) || !sameGiven(before, g.whole()) {
			t.Errorf("%q: answer %d shares memory with another one, or with what was given", name, i)
		}
	}
	if again := g.answers(); !slices.EqualFunc(again, want, sameStream) {
		t.Errorf("%q: asked once more it answers another one", name)
	}
}

func TestStreamsAreNewMemory(t *testing.T) {
	d := &dice{16}
	for _, from := range []string{"e", "m", "t", "u", "w", "x"} {
		wantNewStreams(t, givenThrough{b: streamBase(), l: askFrom(t, "from "+from)}.roomy())
		for _, piece := range streamPieces() {
			for _, columns := range [][]string{{"a", "b"}, {"c"}, {"g", "h"}, {"x", "count", "a"}} {
				in := mixedStream(d, len(columns), d.below(6))
				in.Fault = int64(d.below(3) * d.below(3))
				in.Rows = slices.Concat(in.Rows, in.Rows)
				wantNewStreams(t, givenThrough{streamBase(), columns, askFrom(t, "from "+from+" | "+piece), in}.roomy())
				wantNewStreams(t, givenThrough{streamBase(), columns, askFrom(t, "from "+from+" | once | "+piece+" | limit 2 0"), in}.roomy())
			}
		}
	}
}

func TestRefusedStreamsAreNewMemory(t *testing.T) {
	rows := []row{{number(1), number(2)}, {number(3), {}}, {number(1), number(2)}}
	for _, wrong := range oneWrong() {
		wantNewStreams(t, givenThrough{streamBase(), letters(2), ask{fromSieve("t").sieve, wrong}, stream{Rows: rows}}.roomy())
	}
	for _, r := range []row{nil, {number(1)}, {number(1), number(2), number(3)}, {number(1), text("A")}} {
		wantNewStreams(t, givenThrough{streamBase(), letters(2), askFrom(t, "from t | let x = a | once"), ending(append(rows[:2:2], r), impl.FtOver)}.roomy())
	}
	for name, b := range wrongBases() {
		if len(b) < 10 && !strings.Contains(name, "between") {
			wantNewStreams(t, givenThrough{b, letters(2), askFrom(t, "from t | keep a | order a"), stream{Rows: rows}}.roomy())
		}
	}
}

func TestStreamsAtMaxMadeAreNewMemory(t *testing.T) {
	b := append(countBase(), impl.Table{Name: "v", Columns: []string{"d"}, Rows: numbersUpTo(60)})
	for _, s := range []string{"from v | join u on yes", "from v | left u on no", "from v | left u on c < d"} {
		in := stream{Rows: numbersUpTo(60)}
		wantNewStreams(t, givenThrough{b, []string{"d"}, askFrom(t, s), in}.roomy())
	}
}

// What shares memory where it is given does not in the answers.
func TestStreamsOfRowsThatShareMemory(t *testing.T) {
	cells, names := row{number(4), number(2), number(4), number(1)}, []string{"a", "b", "c", "d"}
	rows := []row{cells[0:2], cells[1:3], cells[0:2], cells[2:4]}
	b := base{{Name: "t", Columns: names[:2], Rows: rows}, {Name: "u", Columns: names[2:], Rows: rows[1:3]}}
	for _, piece := range []string{"where b < a", "where yes", "let x = a", "keep b a", "keep a b", "join u on c < a", "left u on c = a", "left u on no", "group a", "group", "order a", "order b down", "limit 3 1", "limit 9 0", "once"} {
		wantNewStreams(t, givenThrough{b, names[:2], askFrom(t, "from t | "+piece), stream{Rows: rows}})
		wantNewStreams(t, givenThrough{b, names[:2], askFrom(t, "from t | "+piece), stream{Rows: b[0].Rows[1:]}})
		wantSifted(t, b, names[:2], sieveFrom(t, piece), stream{Rows: rows})
		wantPromise12(t, b, askFrom(t, "from t | "+piece))
	}
	if !slices.Equal(cells, row{number(4), number(2), number(4), number(1)}) || !slices.Equal(names, letters(4)) {
		t.Errorf("one of the three writes into %v or %q", cells, names)
	}
}

func TestSameStreamLeavesItsArguments(t *testing.T) {
	one, other := ending(roomy(someRows()), 2), ending(roomy(someRows()), 2)
	before := wholeRows(one.Rows)
	for range 2 {
		if !impl.SameStream(one, other) || !impl.SameStream(one, one) {
			t.Error("like ones are not the same")
		}
	}
	if !reflect.DeepEqual(before, wholeRows(one.Rows)) || !reflect.DeepEqual(before, wholeRows(other.Rows)) {
		t.Error("SameStream writes into its arguments")
	}
}
