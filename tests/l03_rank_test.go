package tests

import (
	"fmt"
	"math"
	"reflect"
	"slices"
	"testing"

	"loop.example/g00536/impl"
)

type row = []impl.Cell

// rankedCells rises: each one is less than all behind it, right or wrong.
func rankedCells() []impl.Cell {
	return []impl.Cell{
		{Kind: math.MinInt64}, {Kind: -1, Number: 5}, {Kind: impl.CeNone, Number: -1}, {}, {Text: "a"}, {Number: 1},
		number(math.MinInt64), number(-topNumber), number(-2), number(-1), number(0), {Kind: impl.CeNumber, Text: "a"},
		number(1), number(2), number(topNumber), number(math.MaxInt64),
		{Kind: impl.CeText, Number: -1, Text: "z"}, text(""), text("A"), text("a"), text("aa"), text("ab"), text("abcdefghijkl"),
		text("b"), text("é"), {Kind: impl.CeText, Number: 1},
		truth(-1), truth(0), {Kind: impl.CeTruth, Text: "a"}, truth(1), truth(2), {Kind: 4}, {Kind: math.MaxInt64},
	}
}

// rankedRows rises as rankedCells does.
func rankedRows() []row {
	return []row{
		{}, {{}}, {{}, {}}, {{}, number(1)}, {number(-1)}, {number(1)}, {number(1), {}}, {number(1), number(-3)},
		{number(1), number(2)}, {number(1), number(2), number(0)}, {number(1), number(2), number(5)}, {number(1), number(3)},
		{number(1), text("a")}, {number(2)}, {text("a"), truth(1)}, {text("b"), truth(0)}, {truth(0)}, {truth(0), truth(0)}, {truth(1)},
	}
}

// wantOrder: less of any two of a rising list is as their places are. That is
// promise 3: none is less than itself, never both ways round, and of three in
// a row the first one is less than the last one.
func wantOrder[T any](t *testing.T, name string, list []T, less func(T, T) bool) {
	t.Helper()
	for i, a := range list {
		for k, b := range list {
			if less(a, b) != (i < k) {
				t.Errorf("%s of %+v and %+v: want %v", name, a, b, i < k)
			}
		}
	}
}

func TestPromise3CellLessIsAnOrder(t *testing.T) {
	wantOrder(t, "CellLess", rankedCells(), impl.CellLess)
}

func TestPromise3RowLessIsAnOrder(t *testing.T) {
	wantOrder(t, "RowLess", rankedRows(), impl.RowLess)
}

func TestRowLessOfOneRowAndOfNil(t *testing.T) {
	if impl.RowLess(nil, nil) || impl.RowLess(nil, row{}) || impl.RowLess(row{}, nil) {
		t.Error("no cells are less than no cells")
	}
	if !impl.RowLess(nil, row{{}}) || impl.RowLess(row{{}}, nil) {
		t.Error("nil is the shorter one")
	}
	for _, r := range rankedRows() {
		if impl.RowLess(r, r) || impl.RowLess(r, slices.Clone(r)) {
			t.Errorf("%v is less than itself", r)
		}
	}
}

// rightCells has, of each Kind but CeNone, some that rise.
func rightCells() [][]impl.Cell {
	return [][]impl.Cell{
		{number(-topNumber), number(-1), number(0), number(1), number(2), number(10), number(topNumber)},
		{text(""), text("a"), text("aa"), text("ab"), text("abcdefghijkl"), text("b"), text("z")},
		{truth(0), truth(1)},
	}
}

func truthOf(holds bool) impl.Cell {
	if holds {
		return truth(1)
	}
	return truth(0)
}

func TestSameAsAndBelowOfOneKind(t *testing.T) {
	for _, list := range rightCells() {
		for i, a := range list {
			for k, b := range list {
				c, f := impl.SameAs(a, b)
				wantCell(t, fmt.Sprint("SameAs of ", a, b), truthOf(i == k), c, f)
				c, f = impl.Below(a, b)
				wantCell(t, fmt.Sprint("Below of ", a, b), truthOf(i < k), c, f)
			}
		}
	}
}

func rankOps() map[string]cellOp {
	return map[string]cellOp{"SameAs": impl.SameAs, "Below": impl.Below}
}

func TestSameAsAndBelowBesideNone(t *testing.T) {
	for name, op := range rankOps() {
		for _, a := range append(slices.Concat(rightCells()...), impl.Cell{}) {
			c, f := op(a, impl.Cell{})
			wantCell(t, name, impl.Cell{}, c, f)
			c, f = op(impl.Cell{}, a)
			wantCell(t, name, impl.Cell{}, c, f)
		}
	}
}

func TestSameAsAndBelowOfDifferentKinds(t *testing.T) {
	kinds := rightCells()
	for name, op := range rankOps() {
		for i, list := range kinds {
			for _, a := range list {
				for _, b := range slices.Concat(kinds[(i+1)%3], kinds[(i+2)%3]) {
					c, f := op(a, b)
					wantKindFault(t, fmt.Sprint(name, " of ", a, b), c, f)
				}
			}
		}
	}
}

func TestSameAsAndBelowOfWrongCells(t *testing.T) {
	beside := append(append(slices.Concat(rightCells()...), impl.Cell{}), wrongCells()...)
	for name, op := range rankOps() {
		for _, a := range wrongCells() {
			for _, b := range beside {
				c, f := op(a, b)
				wantKindFault(t, fmt.Sprint(name, " of ", a, b), c, f)
				c, f = op(b, a)
				wantKindFault(t, fmt.Sprint(name, " of ", b, a), c, f)
			}
		}
	}
}

func wantRows(t *testing.T, name string, want []row, got []row) {
	t.Helper()
	same := func(a row, b row) bool { return slices.Equal(a, b) }
	if !slices.EqualFunc(want, got, same) {
		t.Errorf("%s: %v; want %v", name, got, want)
	}
}

// someRows: in the first place several are alike, in the second one each
// tells where it stood.
func someRows() []row {
	return []row{
		{number(2), number(0)}, {text("a"), number(1)}, {number(1), number(2)}, {{}, number(3)}, {number(2), number(4)},
		{truth(1), number(5)}, {number(1), number(6)}, {text("a"), number(7)}, {{}, number(8)}, {number(2), number(9)},
	}
}

func picked(rows []row, places ...int) []row {
	out := []row{}
	for _, i := range places {
		out = append(out, rows[i])
	}
	return out
}

func TestSortedUpAndDown(t *testing.T) {
	rows := someRows()
	wantRows(t, "up", picked(rows, 3, 8, 2, 6, 0, 4, 9, 1, 7, 5), impl.Sorted(rows, 0, false))
	wantRows(t, "down", picked(rows, 5, 1, 7, 0, 4, 9, 2, 6, 3, 8), impl.Sorted(rows, 0, true))
	wantRows(t, "up, as it is", rows, impl.Sorted(rows, 1, false))
	wantRows(t, "down, turned round", picked(rows, 9, 8, 7, 6, 5, 4, 3, 2, 1, 0), impl.Sorted(rows, 1, true))
}

func TestSortedOfRowsOfOtherLengths(t *testing.T) {
	rows := []row{{number(1), text("b"), {}}, {number(0), text("a")}, {truth(1), text("b")}, {{}, text("a"), {}, {}}}
	wantRows(t, "up", picked(rows, 1, 3, 0, 2), impl.Sorted(rows, 1, false))
	wantRows(t, "down", picked(rows, 0, 2, 1, 3), impl.Sorted(rows, 1, true))
}

// Wrong cells have their rank, too: the document bars none from Sorted.
func TestSortedOfWrongCells(t *testing.T) {
	rows := []row{}
	for _, c := range rankedCells() {
		rows = append(rows, row{c})
	}
	turned := slices.Clone(rows)
	slices.Reverse(turned)
	for _, list := range [][]row{rows, turned} {
		wantRows(t, "up", rows, impl.Sorted(list, 0, false))
		wantRows(t, "down", turned, impl.Sorted(list, 0, true))
	}
}

// Promise 3: what Sorted tells is what a sort that is known to be stable
// tells, for lists with many that are alike.
func TestPromise3SortedKeepsWhatIsAlike(t *testing.T) {
	for n := range 70 {
		rows := []row{}
		for i := range n {
			rows = append(rows, row{number(int64(i)), number(int64(i*i*7+n) % 5), text(string(rune('a' + i*n%3)))})
		}
		for at := range int64(3) {
			up, down := slices.Clone(rows), slices.Clone(rows)
			slices.SortStableFunc(up, func(a row, b row) int { return rankAt(a, b, at) })
			slices.SortStableFunc(down, func(a row, b row) int { return rankAt(b, a, at) })
			wantRows(t, "up", up, impl.Sorted(rows, at, false))
			wantRows(t, "down", down, impl.Sorted(rows, at, true))
		}
	}
}

func rankAt(a row, b row, at int64) int {
	switch {
	case impl.CellLess(a[at], b[at]):
		return -1
	case impl.CellLess(b[at], a[at]):
		return 1
	}
	return 0
}

func TestSortedOfFewAndOfAllAlike(t *testing.T) {
	alike := []row{{number(1), text("c")}, {number(1), text("a")}, {number(1), text("b")}, {number(1), text("a")}}
	for _, down := range []bool{false, true} {
		for _, at := range []int64{-1, 0, 1, math.MaxInt64} {
			wantRows(t, "nil", nil, impl.Sorted(nil, at, down))
			wantRows(t, "no rows", nil, impl.Sorted([]row{}, at, down))
			wantRows(t, "one row", []row{{number(3)}}, impl.Sorted([]row{{number(3)}}, at, down))
			wantRows(t, "one empty row", []row{{}}, impl.Sorted([]row{{}}, at, down))
		}
		wantRows(t, "all alike", alike, impl.Sorted(alike, 0, down))
	}
}

func TestSortedAtNoPlace(t *testing.T) {
	rows := someRows()
	short := append(someRows(), row{truth(0)}, row{number(0), number(-1)})
	for _, down := range []bool{false, true} {
		for _, at := range []int64{-1, -2, math.MinInt64, 2, 3, math.MaxInt64, 1 << 32} {
			wantRows(t, fmt.Sprint("at ", at), rows, impl.Sorted(rows, at, down))
		}
		wantRows(t, "one is shorter", short, impl.Sorted(short, 1, down))
		wantRows(t, "one is empty", []row{{truth(1)}, {}, {number(0)}}, impl.Sorted([]row{{truth(1)}, {}, {number(0)}}, 0, down))
	}
}

// roomy has the same rows, each with spare room behind it, and spare room
// behind them all.
func roomy(rows []row) []row {
	spare := impl.Cell{Kind: 77, Number: 7, Text: "spare"}
	out := []row{}
	for _, r := range rows {
		out = append(out, append(append(row{}, r...), spare, spare)[:len(r)])
	}
	return append(out, row{spare}, row{spare, spare})[:len(rows)]
}

// wholeRows tells all that is in rows and in the spare room behind them.
func wholeRows(rows []row) []row {
	out := []row{}
	for _, r := range rows[:cap(rows)] {
		out = append(out, append(row{}, r[:cap(r)]...))
	}
	return out
}

func scribble(r row) {
	r = r[:cap(r)]
	for i := range r {
		r[i] = impl.Cell{Kind: 99, Number: 9, Text: "scribble"}
	}
}

// wantNewRows: what ask makes of given leaves given and its spare room as
// they are, is changed by nobody who writes into given, and no list of it is
// changed by who writes into another one.
func wantNewRows(t *testing.T, name string, given []row, ask func([]row) []row) {
	t.Helper()
	before := wholeRows(given)
	got := ask(given)
	if !reflect.DeepEqual(before, wholeRows(given)) {
		t.Errorf("%s: writes into its argument", name)
	}
	want := wholeRows(got)
	for i := range got {
		scribble(got[i])
		for k := i + 1; k < len(got); k++ {
			if !slices.Equal(got[k][:cap(got[k])], want[k]) {
				t.Errorf("%s: lists %d and %d share memory", name, i, k)
			}
		}
	}
	for i := range got[:cap(got)] {
		got[:cap(got)][i] = row{number(-99)}
	}
	if !reflect.DeepEqual(before, wholeRows(given)) {
		t.Errorf("%s: its answer shares memory with its argument", name)
	}
}

func TestSortedIsNewMemory(t *testing.T) {
	twice := row{number(4), number(2), number(4)}
	lists := map[string][]row{
		"ordinary": someRows(), "no rows": {}, "one": {{number(1), number(2)}}, "alike": {{{}, {}}, {{}, {}}, {{}, {}}},
		"of other lengths": {{number(3), {}}, {{}}, {}}, "sorted already": {{number(1), {}}, {number(2), {}}, {number(3), {}}},
	}
	shared := map[string][]row{"one row twice": {twice, twice}, "overlapping": {twice[0:2], twice[1:3], twice[0:3]}}
	for name, rows := range lists {
		lists[name] = roomy(rows)
	}
	for _, down := range []bool{false, true} {
		for _, at := range []int64{-1, 0, 1, 2} {
			ask := func(rows []row) []row { return impl.Sorted(rows, at, down) }
			for name, rows := range lists {
				wantNewRows(t, fmt.Sprint(name, " at ", at), rows, ask)
			}
			for name, rows := range shared {
				wantNewRows(t, fmt.Sprint(name, " at ", at), rows, ask)
			}
		}
	}
}
