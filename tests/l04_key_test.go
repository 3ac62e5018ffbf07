package tests

import (
	"fmt"
	"math"
	"regexp"
	"slices"
	"strings"
	"testing"

	"loop.example/g00536/impl"
)

const cellForm = `(none|yes|no|'[a-z]{0,12}'|0|-?[1-9][0-9]{0,8}|-?1000000000)`

// What is of these forms, and nothing else, is written by CellText and by
// RowText.
func cellPattern() *regexp.Regexp { return regexp.MustCompile(`\A` + cellForm + `\z`) }

func rowPattern() *regexp.Regexp {
	return regexp.MustCompile(`\A(` + cellForm + `( ` + cellForm + `)*)?\z`)
}

type writtenCell struct {
	cell impl.Cell
	text string
}

func writtenCells() []writtenCell {
	return []writtenCell{
		{impl.Cell{}, "none"}, {truth(1), "yes"}, {truth(0), "no"},
		{number(0), "0"}, {number(1), "1"}, {number(-1), "-1"}, {number(7), "7"}, {number(10), "10"}, {number(-10), "-10"},
		{number(42), "42"}, {number(-305), "-305"}, {number(999999999), "999999999"}, {number(-999999999), "-999999999"},
		{number(topNumber), "1000000000"}, {number(-topNumber), "-1000000000"},
		{text(""), "''"}, {text("a"), "'a'"}, {text("z"), "'z'"}, {text("ab"), "'ab'"}, {text("abcdefghijkl"), "'abcdefghijkl'"},
		{text("none"), "'none'"}, {text("yes"), "'yes'"}, {text("no"), "'no'"},
	}
}

// noCellTexts are texts that no right cell has.
func noCellTexts() []string {
	return []string{
		"", " ", "  ", "-", "+", "--", "'", "'''", "''''", "'a", "a'", "a", "ab", "'ab", "ab'", "''a", "a''", "'a'b'", "\"a\"",
		"'A'", "'aB'", "'a b'", "'a1'", "'-'", "' '", "'a '", "' a'", "'é'", "'a\x00'", "'\xff'", "'abcdefghijklm'", "'a\n'", "`a`",
		"05", "00", "007", "-0", "+0", "-00", "-05", "+5", "+-5", "-+5", "--5", " 5", "5 ", "5-", "5.", "5.0", "5e3", "0x5", "0b1", "1_000", "5a",
		"-1000000001", "1000000001", "1000000010", "2000000000", "9999999999", "10000000000", "-10000000000", "01000000000",
		"2147483648", "4294967296", "4294967301", "9223372036854775807", "9223372036854775808", "-9223372036854775808",
		"18446744073709551616", "18446744073709551621", strings.Repeat("9", 3000), strings.Repeat("0", 3000), "-" + strings.Repeat("1", 3000),
		"None", "NONE", "non", "nonee", "nnone", " none", "none ", "Yes", "ye", "yess", "y", "No", "n", "noo", "not", "true", "false", "nil",
		"yes no", "1 2", "none none", "5\n", "\n5", "\tnone", "none\x00", "٣", "５", "é", "\xff", strings.Repeat("'", 3000),
	}
}

func wantRead(t *testing.T, s string, want impl.Cell, is bool) {
	t.Helper()
	if c, got := impl.ReadCell(s); c != want || got != is {
		t.Errorf("ReadCell of %q: %+v %v; want %+v %v", s, c, got, want, is)
	}
}

func TestCellTextAndReadCellOfEachKind(t *testing.T) {
	for _, w := range writtenCells() {
		if s := impl.CellText(w.cell); s != w.text {
			t.Errorf("CellText of %+v: %q; want %q", w.cell, s, w.text)
		}
		wantRead(t, w.text, w.cell, true)
	}
}

func TestCellTextOfWrongCells(t *testing.T) {
	for _, c := range wrongCells() {
		if s := impl.CellText(c); s != "" {
			t.Errorf("CellText of %+v: %q; want it empty", c, s)
		}
	}
}

func TestReadCellOfNoCell(t *testing.T) {
	for _, s := range noCellTexts() {
		wantRead(t, s, impl.Cell{}, false)
	}
}

func TestPromise4ReadCellOfCellText(t *testing.T) {
	cells := []impl.Cell{{}, truth(0), truth(1)}
	for _, n := range someNumbers() {
		cells = append(cells, number(n))
	}
	for n := range 13 {
		cells = append(cells, text(strings.Repeat("q", n)), text("zyxwvutsrqpo"[:n]))
	}
	for b := 'a'; b <= 'z'; b++ {
		cells = append(cells, text(string(b)))
	}
	pattern := cellPattern()
	for _, c := range cells {
		s := impl.CellText(c)
		if !pattern.MatchString(s) {
			t.Errorf("CellText of %+v: %q", c, s)
		}
		wantRead(t, s, c, true)
	}
}

// wantCellForm: ReadCell reads just what is of the form, and as what it is
// written.
func wantCellForm(t *testing.T, pattern *regexp.Regexp, s string) {
	t.Helper()
	c, is := impl.ReadCell(s)
	if is != pattern.MatchString(s) {
		t.Errorf("ReadCell of %q: %v", s, is)
	}
	if is && impl.CellText(c) != s || !is && c != (impl.Cell{}) {
		t.Errorf("ReadCell of %q: %+v, which is %q", s, c, impl.CellText(c))
	}
}

func TestReadCellOfAByteMoreAndOneLess(t *testing.T) {
	pattern := cellPattern()
	for _, w := range writtenCells() {
		for i := range len(w.text) + 1 {
			for b := range 256 {
				wantCellForm(t, pattern, w.text[:i]+string([]byte{byte(b)})+w.text[i:])
			}
			if i < len(w.text) {
				wantCellForm(t, pattern, w.text[:i]+w.text[i+1:])
			}
		}
	}
}

// shortTexts are all texts of at most n bytes of these.
func shortTexts(bytes string, n int) []string {
	all, last := []string{""}, []string{""}
	for range n {
		next := []string{}
		for _, s := range last {
			for i := range len(bytes) {
				next = append(next, s+bytes[i:i+1])
			}
		}
		all, last = append(all, next...), next
	}
	return all
}

func TestReadCellOfShortTexts(t *testing.T) {
	pattern := cellPattern()
	for _, s := range shortTexts("-+019'ano. ", 4) {
		wantCellForm(t, pattern, s)
	}
}

type writtenRow struct {
	row  row
	text string
}

func writtenRows() []writtenRow {
	list := []writtenRow{
		{nil, ""}, {row{}, ""},
		{row{number(-5), {}, text("ab"), truth(1)}, "-5 none 'ab' yes"},
		{row{{}, {}}, "none none"}, {row{text(""), text("")}, "'' ''"}, {row{text("")}, "''"},
		{row{truth(0), truth(1), truth(0)}, "no yes no"}, {row{number(1), number(1)}, "1 1"},
		{row{number(topNumber), number(-topNumber), number(0)}, "1000000000 -1000000000 0"},
		{row{text("abcdefghijkl"), {}, number(-1), truth(0), text(""), number(30), {}}, "'abcdefghijkl' none -1 no '' 30 none"},
	}
	all, texts := row{}, []string{}
	for _, w := range writtenCells() {
		all, texts = append(all, w.cell), append(texts, w.text)
		list = append(list, writtenRow{row{w.cell}, w.text})
	}
	return append(list, writtenRow{all, strings.Join(texts, " ")})
}

func wantReadRow(t *testing.T, s string, want row, is bool) {
	t.Helper()
	if r, got := impl.ReadRow(s); !slices.Equal(r, want) || got != is {
		t.Errorf("ReadRow of %q: %+v %v; want %+v %v", s, r, got, want, is)
	}
}

func TestRowTextAndReadRow(t *testing.T) {
	for _, w := range writtenRows() {
		if s := impl.RowText(w.row); s != w.text {
			t.Errorf("RowText of %+v: %q; want %q", w.row, s, w.text)
		}
		wantReadRow(t, w.text, w.row, true)
	}
}

func TestPromise4ReadRowOfRowText(t *testing.T) {
	cells := writtenCells()
	for i := range cells {
		for k := range cells {
			for n := range 8 {
				r := row{cells[i].cell, cells[k].cell}
				for m := range n {
					r = append(r, cells[(i+k*m+n)%len(cells)].cell)
				}
				wantReadRow(t, impl.RowText(r), r, true)
			}
		}
	}
	long := row{}
	for i := range 3000 {
		long = append(long, cells[i%len(cells)].cell)
	}
	wantReadRow(t, impl.RowText(long), long, true)
}

func TestRowTextOfWrongCells(t *testing.T) {
	for _, c := range wrongCells() {
		for _, r := range []row{{c}, {c, number(1)}, {number(1), c}, {{}, c, text("a")}, {c, c}} {
			if s := impl.RowText(r); s != "" {
				t.Errorf("RowText of %+v: %q; want it empty", r, s)
			}
		}
	}
}

func TestReadRowOfNoRow(t *testing.T) {
	list := []string{
		" ", "  ", "   ", " 1", "1 ", " 1 ", "1  2", "1   2", "none  none", " none", "none ", "'a'  'b'", " 'a'", "'a' ", "'a b'", "1 'a b' 2",
		"1\t2", "1\n2", "1,2", "1, 2", "\t", "\n", "1 2\n", "1 2 ", " 1 2", "'a''b'", "yesno", "1'a'", "'a'1", "none\x002", "1\u00a02",
	}
	for _, s := range noCellTexts() {
		// Two cells with one blank between are a row, though no cell.
		if s != "" && !rowPattern().MatchString(s) {
			list = append(list, s)
		}
		if !rowPattern().MatchString("1 " + s) {
			list = append(list, "1 "+s, s+" 1", "none "+s+" 'a'")
		}
	}
	for _, s := range list {
		wantReadRow(t, s, nil, false)
	}
}

func TestReadRowOfShortTexts(t *testing.T) {
	pattern := rowPattern()
	for _, s := range shortTexts("-01'ano ", 5) {
		r, is := impl.ReadRow(s)
		if is != pattern.MatchString(s) {
			t.Errorf("ReadRow of %q: %v", s, is)
		}
		if is && impl.RowText(r) != s || !is && len(r) != 0 {
			t.Errorf("ReadRow of %q: %+v, which is %q", s, r, impl.RowText(r))
		}
	}
}

func TestReadRowIsNewMemory(t *testing.T) {
	for _, w := range writtenRows() {
		whole := w.text + " 'spare' 77"
		s := whole[:len(w.text)]
		first, _ := impl.ReadRow(s)
		second, _ := impl.ReadRow(s)
		scribble(first)
		if !slices.Equal(second, w.row) {
			t.Errorf("two answers of %q share memory", s)
		}
		if s != w.text || whole != w.text+" 'spare' 77" {
			t.Errorf("ReadRow of %q writes into its argument", w.text)
		}
		wantReadRow(t, s, w.row, true)
	}
}

// What is answered where nothing is read is nobody else's memory either.
func TestReadRowOfNoRowIsNewMemory(t *testing.T) {
	for _, s := range []string{"", " ", "1  2", "1 2 ", "'a"} {
		r, _ := impl.ReadRow(s)
		_ = append(r, number(99), number(98))
		scribble(r)
		wantReadRow(t, s, nil, s == "")
	}
}

func TestRowTextLeavesItsArgument(t *testing.T) {
	rows := roomy(someRows())
	before := wholeRows(rows)
	for _, r := range rows {
		impl.RowText(r)
	}
	wantRows(t, "RowText", before, wholeRows(rows))
}

func TestDistinctOfRowsThatComeAgain(t *testing.T) {
	a, b, c := row{number(1), text("x")}, row{number(2), text("x")}, row{number(1), text("y")}
	wantRows(t, "none again", []row{a, b, c}, impl.Distinct([]row{a, b, c}))
	wantRows(t, "at once", []row{a, b}, impl.Distinct([]row{a, a, b}))
	wantRows(t, "at once, at the end", []row{a, b}, impl.Distinct([]row{a, b, b}))
	wantRows(t, "later", []row{a, b}, impl.Distinct([]row{a, b, a}))
	wantRows(t, "at once and later", []row{b, c, a}, impl.Distinct([]row{b, b, c, b, a, c, a, a, b}))
	wantRows(t, "not in their rank", []row{c, b, a}, impl.Distinct([]row{c, b, a, b, c}))
	wantRows(t, "other memory", []row{a, b}, impl.Distinct([]row{a, slices.Clone(a), b, slices.Clone(a)}))
}

func TestDistinctOfFewAndOfAllOne(t *testing.T) {
	wantRows(t, "nil", nil, impl.Distinct(nil))
	wantRows(t, "no rows", nil, impl.Distinct([]row{}))
	for _, w := range writtenRows() {
		wantRows(t, "one row", []row{w.row}, impl.Distinct([]row{w.row}))
		wantRows(t, "all one", []row{w.row}, impl.Distinct([]row{w.row, w.row, w.row, slices.Clone(w.row), w.row}))
	}
	wantRows(t, "no cells and nil", []row{{}}, impl.Distinct([]row{nil, {}, nil}))
	wantRows(t, "no cells between", []row{{number(1)}, {}}, impl.Distinct([]row{{number(1)}, {}, {number(1)}, nil}))
}

func TestDistinctOfBeginnings(t *testing.T) {
	whole := row{number(1), {}, text("a"), truth(0), {}}
	rows := []row{}
	for n := range len(whole) + 1 {
		rows = append(rows, whole[:n])
	}
	wantRows(t, "the shorter first", rows, impl.Distinct(append(slices.Clone(rows), rows...)))
	slices.Reverse(rows)
	wantRows(t, "the longer first", rows, impl.Distinct(append(slices.Clone(rows), rows...)))
}

// The document bars no cell from Distinct: wrong cells that differ make rows
// that differ, though RowText is empty of them all.
func TestDistinctOfWrongCells(t *testing.T) {
	rows := []row{{}}
	for _, c := range wrongCells() {
		rows = append(rows, row{c}, row{c, c}, row{number(1), c})
	}
	wantRows(t, "wrong cells", rows, impl.Distinct(slices.Concat(rows, rows)))
}

// These would be one, were their rows told by one of their fields or by their
// texts put together.
func TestDistinctOfRowsThatLookAlike(t *testing.T) {
	rows := []row{
		{text("ab"), text("c")}, {text("a"), text("bc")}, {text("abc")}, {text("abc"), text("")}, {text(""), text("abc")}, {text("c"), text("ab")},
		{number(1), number(12)}, {number(11), number(2)}, {number(112)}, {number(1), number(1), number(2)}, {number(12), number(1)},
		{number(0)}, {truth(0)}, {text("")}, {{}}, {number(1)}, {truth(1)}, {text("no")}, {text("none")}, {text("yes")}, {number(-1)},
		{{}, {}}, {text("a b")}, {text("a"), text("b")}, {text("a' 'b")}, {number(math.MaxInt64)}, {number(math.MinInt64)},
	}
	wantRows(t, "alike", rows, impl.Distinct(slices.Concat(rows, rows, rows)))
}

// Promise 4: each one once, where it comes first, for lists where many come
// again.
func TestPromise4DistinctHasEachOnce(t *testing.T) {
	for n := range 70 {
		rows, want, seen := []row{}, []row{}, map[string]bool{}
		for i := range n {
			r := row{number(int64(i*i*5+n) % 4), text(string(rune('a' + i*n%3)))}[:1+i*i%2]
			key := fmt.Sprintf("%#v", r)
			if !seen[key] {
				want = append(want, r)
			}
			seen[key] = true
			rows = append(rows, r)
		}
		got := impl.Distinct(rows)
		wantRows(t, fmt.Sprint(n, " rows"), want, got)
		wantRows(t, "once more", got, impl.Distinct(got))
	}
}

func TestDistinctIsNewMemory(t *testing.T) {
	twice := row{number(4), number(2), number(4)}
	lists := map[string][]row{
		"ordinary": someRows(), "no rows": {}, "one": {{number(1), {}}}, "an empty one": {{}}, "all one": {{{}, {}}, {{}, {}}, {{}, {}}},
		"again": {{number(3)}, {text("a")}, {number(3)}, {truth(1)}, {text("a")}}, "beginnings": {{number(3), {}}, {number(3)}, {}},
	}
	for name, rows := range lists {
		wantNewRows(t, name, roomy(rows), impl.Distinct)
	}
	wantNewRows(t, "one row twice", []row{twice, twice}, impl.Distinct)
	wantNewRows(t, "overlapping", []row{twice[0:2], twice[1:3], twice[0:3], twice[0:1], twice[2:3]}, impl.Distinct)
}
