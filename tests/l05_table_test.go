package tests

import (
	"fmt"
	"math"
	"reflect"
	"slices"
	"strings"
	"testing"

	"loop.example/g00536/impl"
)

// letters are the names a, b, c and so on.
func letters(n int) []string {
	out := []string{}
	for i := range n {
		out = append(out, string(rune('a'+i)))
	}
	return out
}

// mixedRow has right cells of all four Kinds, other ones for each n.
func mixedRow(n int, width int) row {
	cells := []impl.Cell{number(int64(n)), {}, text("x"), truth(int64(n % 2)), number(-topNumber), text(""), {}, truth(1), number(topNumber)}
	out := row{}
	for i := range width {
		out = append(out, cells[(n*n+n*i+i)%len(cells)])
	}
	return out
}

func mixedTable(width int, count int) impl.Table {
	x := impl.Table{Name: "t", Columns: letters(width)}
	for n := range count {
		x.Rows = append(x.Rows, mixedRow(n, width))
	}
	return x
}

func rightTables() map[string]impl.Table {
	list := map[string]impl.Table{
		"no rows, nil":      {Name: "t", Columns: []string{"a"}},
		"no rows":           {Name: "t", Columns: []string{"a", "b"}, Rows: []row{}},
		"one row":           {Name: "t", Columns: []string{"a", "b"}, Rows: []row{{number(1), {}}}},
		"short names":       {Name: "z", Columns: []string{"z", "a"}},
		"long names":        {Name: "abcxyz", Columns: []string{"zzzzzz", "aaaaaa"}},
		"its own name":      {Name: "a", Columns: []string{"b", "a"}},
		"names near others": {Name: "ab", Columns: []string{"ab", "a", "b", "abc", "ba", "aab"}},
		"words of sums":     {Name: "none", Columns: []string{"and", "or", "not", "lacks", "yes", "no"}},
		"rows alike":        {Name: "t", Columns: []string{"a"}, Rows: []row{{number(1)}, {number(1)}, {{}}, {{}}}},
		"edges of cells":    {Name: "t", Columns: []string{"a", "b", "c"}, Rows: []row{{number(topNumber), number(-topNumber), text("abcdefghijkl")}, {text(""), truth(0), truth(1)}}},
	}
	for width := 1; width <= impl.MaxColumns; width++ {
		for _, count := range []int{0, 1, 2, impl.MaxRows - 1, impl.MaxRows} {
			list[fmt.Sprint(width, " by ", count)] = mixedTable(width, count)
		}
	}
	return list
}

// wrongNames are texts that are no names.
func wrongNames() []string {
	return []string{
		"", " ", "abcdefg", "aaaaaaa", strings.Repeat("a", 12), strings.Repeat("a", 3000), "A", "aB", "Ab", "a b", " a", "a ", "a1", "1", "0",
		"-", "_", "a_b", "a.b", "'a'", "`", "{", "é", "aé", "\x00", "a\x00", "\xff", "a\n", "ａ",
	}
}

func wrongTables() map[string]impl.Table {
	a, b := number(1), text("b")
	list := map[string]impl.Table{
		"the zero one":          {},
		"no columns":            {Name: "t"},
		"no columns, empty":     {Name: "t", Columns: []string{}, Rows: []row{}},
		"no columns, empty row": {Name: "t", Rows: []row{{}}},
		"a column too many":     mixedTable(impl.MaxColumns+1, 0),
		"too many, with rows":   mixedTable(impl.MaxColumns+1, 3),
		"many columns":          mixedTable(26, 1),
		"two alike":             {Name: "t", Columns: []string{"a", "a"}},
		"first and last alike":  {Name: "t", Columns: []string{"a", "b", "c", "d", "e", "a"}},
		"the last two alike":    {Name: "t", Columns: []string{"a", "b", "c", "c"}},
		"alike, with rows":      {Name: "t", Columns: []string{"ab", "ab"}, Rows: []row{{a, b}}},
		"a row too many":        mixedTable(2, impl.MaxRows+1),
		"many rows":             mixedTable(1, 5000),
		"a cell too few":        {Name: "t", Columns: []string{"a", "b"}, Rows: []row{{a}}},
		"a cell too many":       {Name: "t", Columns: []string{"a", "b"}, Rows: []row{{a, b, a}}},
		"a row without cells":   {Name: "t", Columns: []string{"a"}, Rows: []row{{a}, {}}},
		"a row that is nil":     {Name: "t", Columns: []string{"a"}, Rows: []row{nil, {a}}},
		"the last row short":    {Name: "t", Columns: []string{"a", "b"}, Rows: []row{{a, b}, {a, b}, {a}}},
		"a row long, one short": {Name: "t", Columns: []string{"a", "b"}, Rows: []row{{a, b, a}, {a}}},
	}
	for i, name := range wrongNames() {
		list[fmt.Sprint("name ", i)] = impl.Table{Name: name, Columns: []string{"a"}, Rows: []row{{a}}}
		list[fmt.Sprint("first column ", i)] = impl.Table{Name: "t", Columns: []string{name, "a"}, Rows: []row{{a, b}}}
		list[fmt.Sprint("last column ", i)] = impl.Table{Name: "t", Columns: []string{"a", "b", name}}
		list[fmt.Sprint("only column ", i)] = impl.Table{Name: "t", Columns: []string{name}, Rows: []row{{a}}}
	}
	for i, c := range wrongCells() {
		list[fmt.Sprint("first cell ", i)] = impl.Table{Name: "t", Columns: []string{"a", "b"}, Rows: []row{{c, b}, {a, b}}}
		list[fmt.Sprint("last cell ", i)] = impl.Table{Name: "t", Columns: []string{"a", "b"}, Rows: []row{{a, b}, {a, b}, {a, c}}}
		list[fmt.Sprint("only cell ", i)] = impl.Table{Name: "t", Columns: []string{"a"}, Rows: []row{{c}}}
	}
	return list
}

func TestTableOkOfRightTables(t *testing.T) {
	for name, x := range rightTables() {
		if !impl.TableOk(x) {
			t.Errorf("%s: %+v is a right table", name, x)
		}
	}
}

func TestTableOkOfWrongTables(t *testing.T) {
	for name, x := range wrongTables() {
		if impl.TableOk(x) {
			t.Errorf("%s: %+v is no right table", name, x)
		}
	}
}

func TestTableOkOfEachByteOfAName(t *testing.T) {
	for length := range 6 {
		for at := range length + 1 {
			for n := range 256 {
				s := strings.Repeat("m", at) + string([]byte{byte(n)}) + strings.Repeat("m", length-at)
				want := n >= 'a' && n <= 'z'
				for _, x := range []impl.Table{{Name: s, Columns: []string{"a"}}, {Name: "t", Columns: []string{"bb", s, "cc"}}} {
					if impl.TableOk(x) != want {
						t.Errorf("TableOk of the name %q: want %v", s, want)
					}
				}
			}
		}
	}
}

func TestTableOkOfEachLengthOfAName(t *testing.T) {
	for n := range 40 {
		s, want := strings.Repeat("q", n), n >= 1 && n <= 6
		if impl.TableOk(impl.Table{Name: s, Columns: []string{"a"}}) != want {
			t.Errorf("TableOk of a name of %d bytes: want %v", n, want)
		}
		if impl.TableOk(impl.Table{Name: "t", Columns: []string{"a", s}}) != want {
			t.Errorf("TableOk of a column of %d bytes: want %v", n, want)
		}
	}
}

func TestTableOkOfEachSize(t *testing.T) {
	for width := range 10 {
		for count := range 70 {
			want := width >= 1 && width <= 6 && count <= 60
			if impl.TableOk(mixedTable(width, count)) != want {
				t.Errorf("TableOk of %d columns, %d rows: want %v", width, count, want)
			}
		}
	}
}

// A row that does not fit, or a wrong cell, is found wherever it stands.
func TestTableOkOfOneFlawAnywhere(t *testing.T) {
	for i := range impl.MaxRows {
		for k := range impl.MaxColumns {
			x := mixedTable(impl.MaxColumns, impl.MaxRows)
			x.Rows[i][k] = truth(2)
			if impl.TableOk(x) {
				t.Errorf("a wrong cell in row %d, column %d", i, k)
			}
		}
		for _, width := range []int{0, impl.MaxColumns - 1, impl.MaxColumns + 1} {
			x := mixedTable(impl.MaxColumns, impl.MaxRows)
			x.Rows[i] = mixedRow(i, width)
			if impl.TableOk(x) {
				t.Errorf("row %d has %d cells", i, width)
			}
		}
	}
}

func wantPlace(t *testing.T, columns []string, name string, want int64) {
	t.Helper()
	if at := impl.ColumnOf(columns, name); at != want {
		t.Errorf("ColumnOf %q in %q: %d; want %d", name, columns, at, want)
	}
}

func TestColumnOfEachPlace(t *testing.T) {
	for width := 1; width <= impl.MaxColumns; width++ {
		columns := letters(width)
		for i, name := range columns {
			wantPlace(t, columns, name, int64(i))
		}
		wantPlace(t, columns, "z", -1)
		wantPlace(t, columns, "aa", -1)
	}
	near := []string{"abc", "ab", "b", "a", "bc", "abcdef"}
	for i, name := range near {
		wantPlace(t, near, name, int64(i))
	}
	for _, name := range []string{"c", "abcd", "cb", "ba", "aa", "bcd", "abcde", "abcdeg"} {
		wantPlace(t, near, name, -1)
	}
}

func TestColumnOfNoColumns(t *testing.T) {
	for _, name := range append(wrongNames(), "a", "abcdef") {
		wantPlace(t, nil, name, -1)
		wantPlace(t, []string{}, name, -1)
		wantPlace(t, []string{"a", "b"}[:0], name, -1)
	}
}

// The document bars no columns from ColumnOf: what stands there several times
// is found at its first place, and a text that is no name where it stands.
func TestColumnOfColumnsThatAreNotRight(t *testing.T) {
	wantPlace(t, []string{"a", "b", "b", "a"}, "b", 1)
	wantPlace(t, []string{"b", "b", "a", "a"}, "a", 2)
	for _, name := range wrongNames() {
		wantPlace(t, []string{"b", "c"}, name, -1)
		wantPlace(t, []string{"b", name}, name, 1)
		wantPlace(t, []string{name, "b"}, "b", 1)
		wantPlace(t, []string{name}, "b", -1)
	}
	long := slices.Repeat([]string{"b"}, 3000)
	wantPlace(t, append(long, "a"), "a", 3000)
	wantPlace(t, long, "a", -1)
}

func TestColumnOfLeavesItsColumns(t *testing.T) {
	whole := []string{"a", "b", "c", "spare"}
	for _, name := range []string{"a", "c", "spare", ""} {
		impl.ColumnOf(whole[:3], name)
	}
	if !slices.Equal(whole, []string{"a", "b", "c", "spare"}) {
		t.Errorf("ColumnOf writes into its columns: %q", whole)
	}
	wantPlace(t, whole[:3], "spare", -1)
}

func wantTable(t *testing.T, name string, want impl.Table, got impl.Table) {
	t.Helper()
	if got.Name != want.Name || !slices.Equal(got.Columns, want.Columns) {
		t.Errorf("%s: %q %q; want %q %q", name, got.Name, got.Columns, want.Name, want.Columns)
	}
	wantRows(t, name, want.Rows, got.Rows)
}

func wantPut(t *testing.T, name string, x impl.Table, r row, want impl.Table, is bool) {
	t.Helper()
	got, done := impl.Put(x, r)
	if done != is {
		t.Errorf("%s: Put says %v; want %v", name, done, is)
	}
	wantTable(t, name, want, got)
}

func TestPutBehindNoneAndBehindSeveral(t *testing.T) {
	a, b, c := row{number(1), {}}, row{text("ab"), truth(1)}, row{{}, number(-5)}
	columns := []string{"n", "m"}
	wantPut(t, "behind nil", impl.Table{Name: "t", Columns: columns}, a, impl.Table{Name: "t", Columns: columns, Rows: []row{a}}, true)
	wantPut(t, "behind none", impl.Table{Name: "t", Columns: columns, Rows: []row{}}, b, impl.Table{Name: "t", Columns: columns, Rows: []row{b}}, true)
	wantPut(t, "behind one", impl.Table{Name: "t", Columns: columns, Rows: []row{b}}, a, impl.Table{Name: "t", Columns: columns, Rows: []row{b, a}}, true)
	wantPut(t, "behind several", impl.Table{Name: "t", Columns: columns, Rows: []row{c, b, a}}, b, impl.Table{Name: "t", Columns: columns, Rows: []row{c, b, a, b}}, true)
}

// Promise 5: what was Put is at the end, behind all that was there as it was,
// up to the last row that there may be and no further.
func TestPromise5WhatWasPutIsAtTheEnd(t *testing.T) {
	for width := 1; width <= impl.MaxColumns; width++ {
		x, want := mixedTable(width, 0), mixedTable(width, 0)
		for n := range impl.MaxRows {
			r := mixedRow(n*3+1, width)
			want.Rows = append(want.Rows, r)
			put, done := impl.Put(x, r)
			if !done || len(put.Rows) != n+1 || !slices.Equal(put.Rows[n], r) || !impl.TableOk(put) {
				t.Fatalf("%d columns, row %d: %v %+v", width, n, done, put)
			}
			wantTable(t, fmt.Sprint(width, " columns, row ", n), want, put)
			x = put
		}
		wantPut(t, "one row more", x, mixedRow(2, width), want, false)
		wantPut(t, "one row more, wrong", x, mixedRow(2, width+1), want, false)
	}
}

func TestPutBehindEachRightTable(t *testing.T) {
	for name, x := range rightTables() {
		r := mixedRow(7, len(x.Columns))
		if len(x.Rows) == impl.MaxRows {
			wantPut(t, name, x, r, x, false)
			continue
		}
		wantPut(t, name, x, r, impl.Table{Name: x.Name, Columns: x.Columns, Rows: append(slices.Clone(x.Rows), r)}, true)
	}
}

func TestPutOfWrongRows(t *testing.T) {
	for name, x := range rightTables() {
		width := len(x.Columns)
		for n := range 9 {
			if n != width {
				wantPut(t, fmt.Sprint(name, ", ", n, " cells"), x, mixedRow(n, n), x, false)
			}
		}
		wantPut(t, name+", nil", x, nil, x, false)
		wantPut(t, name+", a long row", x, make(row, 3000), x, false)
		for _, c := range wrongCells() {
			for at := range width {
				r := mixedRow(at, width)
				r[at] = c
				wantPut(t, fmt.Sprint(name, ", ", c, " at ", at), x, r, x, false)
			}
		}
	}
}

func TestPutIntoWrongTables(t *testing.T) {
	for name, x := range wrongTables() {
		for n := range 8 {
			wantPut(t, name, x, mixedRow(n, n), impl.Table{}, false)
		}
		wantPut(t, name+", as many cells", x, mixedRow(1, len(x.Columns)), impl.Table{}, false)
		wantPut(t, name+", a wrong cell", x, row{number(topNumber + 1)}, impl.Table{}, false)
	}
}

func wantCensus(t *testing.T, name string, x impl.Table, column int64, want ...int64) {
	t.Helper()
	if got := impl.Census(x, column); !slices.Equal(got, want) {
		t.Errorf("%s: Census of column %d: %v; want %v", name, column, got, want)
	}
}

func TestCensusBeforeAndBehindAPut(t *testing.T) {
	x := impl.Table{Name: "t", Columns: []string{"a", "b", "c"}, Rows: []row{
		{number(1), {}, {}}, {text("a"), {}, number(0)}, {{}, {}, text("")}, {truth(0), {}, truth(1)}, {number(-1), {}, number(2)}, {text(""), {}, number(2)},
	}}
	wantCensus(t, "before", x, 0, 1, 2, 2, 1)
	wantCensus(t, "before", x, 1, 6, 0, 0, 0)
	wantCensus(t, "before", x, 2, 1, 3, 1, 1)
	x, _ = impl.Put(x, row{truth(1), number(1), text("z")})
	wantCensus(t, "behind", x, 0, 1, 2, 2, 2)
	wantCensus(t, "behind", x, 1, 6, 1, 0, 0)
	wantCensus(t, "behind", x, 2, 1, 3, 2, 1)
}

// counted is a Census by another way: kind by kind.
func counted(x impl.Table, column int) []int64 {
	out := []int64{}
	for kind := range int64(4) {
		n := int64(0)
		for _, r := range x.Rows {
			if r[column].Kind == kind {
				n++
			}
		}
		out = append(out, n)
	}
	return out
}

func sumOf(list []int64) int64 {
	sum := int64(0)
	for _, n := range list {
		sum += n
	}
	return sum
}

// Promise 5: a Census counts all, of each Kind, in each column.
func TestPromise5ACensusCountsAll(t *testing.T) {
	for name, x := range rightTables() {
		for k := range x.Columns {
			wantCensus(t, name, x, int64(k), counted(x, k)...)
			if n := sumOf(impl.Census(x, int64(k))); n != int64(len(x.Rows)) {
				t.Errorf("%s: a Census of %d of %d rows", name, n, len(x.Rows))
			}
		}
	}
}

// Promise 5, both halves: a Put adds one to what the Census counts of its
// cell's Kind, and nothing else.
func TestPromise5ACensusCountsWhatWasPut(t *testing.T) {
	for width := 1; width <= impl.MaxColumns; width++ {
		x := mixedTable(width, 0)
		for n := range impl.MaxRows {
			r := mixedRow(n, width)
			put, _ := impl.Put(x, r)
			for k, c := range r {
				want := impl.Census(x, int64(k))
				want[c.Kind]++
				wantCensus(t, fmt.Sprint("row ", n), put, int64(k), want...)
			}
			x = put
		}
	}
}

func TestCensusOfATableWithoutRows(t *testing.T) {
	for width := 1; width <= impl.MaxColumns; width++ {
		for k := range width {
			wantCensus(t, "no rows", mixedTable(width, 0), int64(k), 0, 0, 0, 0)
		}
	}
}

func farColumns() []int64 {
	return []int64{-1, -2, -6, math.MinInt64, 100, math.MaxInt64, 1 << 32, 1<<32 + 1, -1 << 32}
}

func TestCensusAndAllNumbersOfNoSuchColumn(t *testing.T) {
	for name, x := range rightTables() {
		for k := range x.Rows {
			x.Rows[k] = slices.Repeat(row{number(1)}, len(x.Columns))
		}
		for _, column := range append(farColumns(), int64(len(x.Columns)), int64(len(x.Columns))+1) {
			wantCensus(t, name, x, column)
			if impl.AllNumbers(x, column) {
				t.Errorf("%s: AllNumbers of column %d", name, column)
			}
		}
	}
}

func TestCensusAndAllNumbersOfWrongTables(t *testing.T) {
	for name, x := range wrongTables() {
		for _, column := range append(farColumns(), 0, 1, 2, 3, 4, 5, 6, 7) {
			wantCensus(t, name, x, column)
			if impl.AllNumbers(x, column) {
				t.Errorf("%s: AllNumbers of column %d", name, column)
			}
		}
	}
}

func wantAllNumbers(t *testing.T, name string, x impl.Table, column int64, want bool) {
	t.Helper()
	if impl.AllNumbers(x, column) != want {
		t.Errorf("%s: AllNumbers of column %d: want %v", name, column, want)
	}
}

func TestAllNumbersOfNumbersAlone(t *testing.T) {
	for _, count := range []int{1, 2, 3, impl.MaxRows} {
		x := impl.Table{Name: "t", Columns: []string{"a", "b", "c"}}
		for n := range count {
			x.Rows = append(x.Rows, row{number(int64(n)), {}, number(-topNumber)})
		}
		wantAllNumbers(t, "numbers", x, 0, true)
		wantAllNumbers(t, "nones beside", x, 1, false)
		wantAllNumbers(t, "numbers, last column", x, 2, true)
	}
}

func TestAllNumbersOfOneOtherKindAnywhere(t *testing.T) {
	for _, c := range []impl.Cell{{}, text("a"), text(""), truth(0), truth(1)} {
		for at := range impl.MaxRows {
			x := impl.Table{Name: "t", Columns: []string{"a", "b"}}
			for n := range impl.MaxRows {
				x.Rows = append(x.Rows, row{number(int64(n)), number(0)})
			}
			x.Rows[at][0] = c
			wantAllNumbers(t, fmt.Sprint(c, " at ", at), x, 0, false)
			wantAllNumbers(t, "the column beside it", x, 1, true)
		}
	}
}

func TestAllNumbersOfATableWithoutRows(t *testing.T) {
	for width := 1; width <= impl.MaxColumns; width++ {
		for k := range width {
			wantAllNumbers(t, "no rows", mixedTable(width, 0), int64(k), false)
		}
	}
}

func TestAllNumbersIsWhatTheCensusTells(t *testing.T) {
	for name, x := range rightTables() {
		for k := range x.Columns {
			count := int64(len(x.Rows))
			wantAllNumbers(t, name, x, int64(k), count > 0 && counted(x, k)[impl.CeNumber] == count)
		}
	}
}

// roomyTable is the same Table, with spare room behind each of its lists.
func roomyTable(x impl.Table) impl.Table {
	columns := append(slices.Clone(x.Columns), "spare", "room")[:len(x.Columns)]
	return impl.Table{Name: x.Name, Columns: columns, Rows: roomy(x.Rows)}
}

// wholeTable tells all that is in a Table and in the spare room behind its
// lists.
func wholeTable(x impl.Table) impl.Table {
	return impl.Table{Name: x.Name, Columns: append([]string{}, x.Columns[:cap(x.Columns)]...), Rows: wholeRows(x.Rows)}
}

func scribbleTable(x impl.Table) {
	for i := range x.Columns[:cap(x.Columns)] {
		x.Columns[:cap(x.Columns)][i] = "scrib"
	}
	for i, r := range x.Rows[:cap(x.Rows)] {
		scribble(r)
		x.Rows[:cap(x.Rows)][i] = row{number(-99)}
	}
}

// wantNewTable: Put leaves both that it is given and their spare room as they
// are, and no list of its answer is memory of theirs or of another one.
func wantNewTable(t *testing.T, name string, x impl.Table, r row) {
	t.Helper()
	beforeTable, beforeRow := wholeTable(x), slices.Clone(r[:cap(r)])
	stay := func(what string) {
		t.Helper()
		if !reflect.DeepEqual(beforeTable, wholeTable(x)) || !slices.Equal(beforeRow, r[:cap(r)]) {
			t.Errorf("%s: %s", name, what)
		}
	}
	got, _ := impl.Put(x, r)
	again, _ := impl.Put(x, r)
	stay("Put writes into its argument")
	want := wholeTable(got)
	wantNewRows(t, name, x.Rows, func(rows []row) []row {
		y, _ := impl.Put(impl.Table{Name: x.Name, Columns: x.Columns, Rows: rows}, r)
		return y.Rows
	})
	scribbleTable(got)
	stay("Put's answer shares memory with its argument")
	if !reflect.DeepEqual(want, wholeTable(again)) {
		t.Errorf("%s: two answers share memory", name)
	}
}

func roomyRow(r row) row { return roomy([]row{r})[0] }

func TestPutIsNewMemory(t *testing.T) {
	for name, x := range rightTables() {
		width := len(x.Columns)
		wantNewTable(t, name, roomyTable(x), roomyRow(mixedRow(5, width)))
		wantNewTable(t, name+", a row too short", roomyTable(x), roomyRow(mixedRow(5, width-1)))
		wantNewTable(t, name+", a row too long", roomyTable(x), roomyRow(mixedRow(5, width+1)))
		wantNewTable(t, name+", no row", roomyTable(x), nil)
	}
	for name, x := range wrongTables() {
		wantNewTable(t, name, roomyTable(x), roomyRow(mixedRow(5, len(x.Columns))))
	}
}

// What shares memory where it is given does not in the answer.
func TestPutOfRowsThatShareMemory(t *testing.T) {
	cells := row{number(4), number(2), number(4), number(1)}
	x := impl.Table{Name: "t", Columns: []string{"a", "b"}, Rows: []row{cells[0:2], cells[1:3], cells[0:2], cells[2:4]}}
	wantNewTable(t, "a row of the table", x, x.Rows[0])
	wantNewTable(t, "a piece of one", x, cells[1:3])
	wantNewTable(t, "too long a piece", x, cells)
	put, _ := impl.Put(x, x.Rows[3])
	wantTable(t, "pieces", impl.Table{Name: "t", Columns: x.Columns, Rows: append(slices.Clone(x.Rows), cells[2:4])}, put)
}

func TestTwoPutsBehindOneTable(t *testing.T) {
	x := roomyTable(mixedTable(2, 3))
	one, _ := impl.Put(x, row{number(1), number(1)})
	two, _ := impl.Put(x, row{number(2), number(2)})
	first, _ := impl.Put(one, row{text("f"), {}})
	second, _ := impl.Put(one, row{text("s"), {}})
	base := mixedTable(2, 3).Rows
	wantRows(t, "one", append(slices.Clone(base), row{number(1), number(1)}), one.Rows)
	wantRows(t, "two", append(slices.Clone(base), row{number(2), number(2)}), two.Rows)
	wantRows(t, "first", append(slices.Clone(base), row{number(1), number(1)}, row{text("f"), {}}), first.Rows)
	wantRows(t, "second", append(slices.Clone(base), row{number(1), number(1)}, row{text("s"), {}}), second.Rows)
}

func TestCensusIsNewMemory(t *testing.T) {
	for name, x := range rightTables() {
		for _, column := range []int64{0, int64(len(x.Columns)) - 1, int64(len(x.Columns)), -1} {
			first, second := impl.Census(x, column), impl.Census(x, column)
			want := slices.Clone(second)
			first = append(first, 7, 7)
			for i := range first[:cap(first)] {
				first[:cap(first)][i] = -99
			}
			if !slices.Equal(second, want) {
				t.Errorf("%s: two answers of Census share memory", name)
			}
			wantCensus(t, name, x, column, want...)
		}
	}
}

func TestAskingLeavesTheTable(t *testing.T) {
	for _, list := range []map[string]impl.Table{rightTables(), wrongTables()} {
		for name, x := range list {
			x = roomyTable(x)
			before := wholeTable(x)
			impl.TableOk(x)
			for _, column := range append(farColumns(), 0, 1, 5, 6) {
				impl.Census(x, column)
				impl.AllNumbers(x, column)
			}
			if !reflect.DeepEqual(before, wholeTable(x)) {
				t.Errorf("%s: TableOk, Census or AllNumbers writes into its argument", name)
			}
		}
	}
}
