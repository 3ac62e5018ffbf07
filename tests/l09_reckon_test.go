package tests

import (
	"fmt"
	"slices"
	"strings"
	"testing"

	"loop.example/g00536/impl"
)

// An outcome is what a sum comes to, and its fault.
type outcome struct {
	cell  impl.Cell
	fault int64
}

func rowFrom(t *testing.T, s string) row {
	t.Helper()
	r, is := impl.ReadRow(s)
	if !is {
		t.Fatalf("%q is no row", s)
	}
	return r
}

// outcomeFrom reads over, zero or kind as a fault, all else as a Cell.
func outcomeFrom(t *testing.T, s string) outcome {
	t.Helper()
	switch s {
	case "over":
		return outcome{fault: 1}
	case "zero":
		return outcome{fault: 2}
	case "kind":
		return outcome{fault: 3}
	}
	c, is := impl.ReadCell(s)
	if !is {
		t.Fatalf("%q is no cell", s)
	}
	return outcome{cell: c}
}

// wantOutcome: what Reckon answers, and what Passes makes of it.
func wantOutcome(t *testing.T, l sum, columns []string, r row, want outcome) {
	t.Helper()
	if c, f := impl.Reckon(l, columns, r); c != want.cell || f != want.fault {
		t.Errorf("Reckon %s of %q %+v: %+v, %d; want %+v, %d", shownSum(l), columns, r, c, f, want.cell, want.fault)
	}
	holds, fault := want == outcome{cell: truth(1)}, want.fault
	if fault == impl.FtNone && want.cell.Kind != impl.CeTruth && want.cell.Kind != impl.CeNone {
		fault = impl.FtKind
	}
	if is, f := impl.Passes(l, columns, r); is != holds || f != fault {
		t.Errorf("Passes %s of %q %+v: %v, %d; want %v, %d", shownSum(l), columns, r, is, f, holds, fault)
	}
}

func shownSum(l sum) string {
	if s := impl.ShowSum(l); s != "" {
		return s
	}
	return fmt.Sprintf("%+v", l)
}

// wantWritten: of the columns a, b, c and d a sum that is written, a row that is
// written, and what it comes to.
func wantWritten(t *testing.T, s string, r string, want string) {
	t.Helper()
	wantOutcome(t, readText(t, s), letters(4), rowFrom(t, r), outcomeFrom(t, want))
}

// allRight are the right cells of all four Kinds.
func allRight() []impl.Cell { return append(slices.Concat(rightCells()...), impl.Cell{}) }

// pairOps are what the signs of two stand for, in the order of their Kinds.
func pairOps() []cellOp {
	return []cellOp{impl.Plus, impl.Less, impl.Times, impl.By, impl.SameAs, impl.Below, impl.Both, impl.Either}
}

// A branch is a sum as a tree: its last Item, and the sums ahead of it.
type branch struct {
	item  impl.Item
	parts []branch
}

// treeOf takes the last sum of a list that ends with one, and answers what
// lies ahead of it.
func treeOf(l sum) (branch, sum) {
	last, rest := l[len(l)-1], l[:len(l)-1]
	count := 2
	switch last.Kind {
	case impl.ItCell, impl.ItName:
		count = 0
	case impl.ItNot, impl.ItLacks:
		count = 1
	}
	parts := make([]branch, count)
	for i := count - 1; i >= 0; i-- {
		parts[i], rest = treeOf(rest)
	}
	return branch{last, parts}, rest
}

// outcomeOf goes down the tree, the first part first: once more what Reckon
// does Item by Item.
func (b branch) outcomeOf(values map[string]impl.Cell) outcome {
	cells := []impl.Cell{}
	for _, part := range b.parts {
		x := part.outcomeOf(values)
		if x.fault != impl.FtNone {
			return x
		}
		cells = append(cells, x.cell)
	}
	out := outcome{}
	switch b.item.Kind {
	case impl.ItCell:
		out.cell = b.item.Cell
	case impl.ItName:
		out.cell = values[b.item.Name]
	case impl.ItNot:
		out.cell, out.fault = impl.Not(cells[0])
	case impl.ItLacks:
		out.cell, out.fault = impl.IsNone(cells[0])
	default:
		out.cell, out.fault = pairOps()[b.item.Kind-impl.ItPlus](cells[0], cells[1])
	}
	return out
}

// depth is what lies there at once: while the other one is reckoned, the one
// lies there already.
func (b branch) depth() int64 {
	deepest := int64(1)
	for i, part := range b.parts {
		deepest = max(deepest, part.depth()+int64(i))
	}
	return deepest
}

func valuesOf(columns []string, r row) map[string]impl.Cell {
	values := map[string]impl.Cell{}
	for i, name := range columns {
		values[name] = r[i]
	}
	return values
}

func wantByTree(t *testing.T, l sum, columns []string, r row) outcome {
	t.Helper()
	tree, _ := treeOf(l)
	want := tree.outcomeOf(valuesOf(columns, r))
	wantOutcome(t, l, columns, r, want)
	if depth := impl.DepthOf(l); depth != tree.depth() {
		t.Errorf("DepthOf %s: %d; want %d", shownSum(l), depth, tree.depth())
	}
	return want
}

func TestReckonOfOneItem(t *testing.T) {
	for _, c := range allRight() {
		wantOutcome(t, sum{cellItem(c)}, letters(2), row{number(7), text("x")}, outcome{cell: c})
		for width := 1; width <= impl.MaxColumns; width++ {
			for i, name := range letters(width) {
				r := mixedRow(width, width)
				r[i] = c
				wantOutcome(t, sum{nameItem(name)}, letters(width), r, outcome{cell: c})
			}
		}
	}
}

func TestReckonOfEachKindOfItem(t *testing.T) {
	for _, c := range [][3]string{
		{"7", "1 2 3 4", "7"}, {"none", "1 2 3 4", "none"}, {"'ab'", "1 2 3 4", "'ab'"}, {"yes", "1 2 3 4", "yes"}, {"no", "1 2 3 4", "no"},
		{"a", "1 'x' none yes", "1"}, {"b", "1 'x' none yes", "'x'"}, {"c", "1 'x' none yes", "none"}, {"d", "1 'x' none yes", "yes"},
		{"a + b", "7 3 0 0", "10"}, {"a - b", "7 3 0 0", "4"}, {"b - a", "7 3 0 0", "-4"}, {"a * b", "7 3 0 0", "21"}, {"a / b", "7 3 0 0", "2"}, {"b / a", "7 3 0 0", "0"}, {"a / b", "-7 3 0 0", "-2"},
		{"a = b", "7 3 0 0", "no"}, {"a = b", "3 3 0 0", "yes"}, {"a < b", "7 3 0 0", "no"}, {"b < a", "7 3 0 0", "yes"}, {"a < b", "3 3 0 0", "no"},
		{"a = b", "'x' 'x' 0 0", "yes"}, {"a < b", "'x' 'xy' 0 0", "yes"}, {"a = b", "yes no 0 0", "no"}, {"a < b", "no yes 0 0", "yes"}, {"a < b", "yes no 0 0", "no"},
		{"a and b", "yes yes 0 0", "yes"}, {"a and b", "yes no 0 0", "no"}, {"a and b", "none yes 0 0", "none"}, {"a and b", "none no 0 0", "no"},
		{"a or b", "no no 0 0", "no"}, {"a or b", "no yes 0 0", "yes"}, {"a or b", "none no 0 0", "none"}, {"a or b", "none yes 0 0", "yes"},
		{"not a", "yes 0 0 0", "no"}, {"not a", "no 0 0 0", "yes"}, {"not a", "none 0 0 0", "none"},
		{"lacks a", "none 0 0 0", "yes"}, {"lacks a", "0 0 0 0", "no"}, {"lacks a", "'' 0 0 0", "no"}, {"lacks a", "no 0 0 0", "no"},
		{"a + b", "none 3 0 0", "none"}, {"a - b", "3 none 0 0", "none"}, {"a * b", "none none 0 0", "none"}, {"a / b", "none 0 0 0", "none"}, {"a = b", "none 'x' 0 0", "none"}, {"a < b", "yes none 0 0", "none"},
		{"a / b", "7 0 0 0", "zero"}, {"a + b", "1000000000 1 0 0", "over"}, {"a + b", "1 'x' 0 0", "kind"}, {"a - b", "yes 1 0 0", "kind"}, {"a * b", "'x' none 0 0", "kind"}, {"a / b", "'x' 0 0 0", "kind"},
		{"a = b", "1 'x' 0 0", "kind"}, {"a < b", "1 yes 0 0", "kind"}, {"a and b", "no 0 0 0", "kind"}, {"a or b", "'x' yes 0 0", "kind"}, {"not a", "1 0 0 0", "kind"}, {"not a", "'yes' 0 0 0", "kind"},
	} {
		wantWritten(t, c[0], c[1], c[2])
	}
}

// Each sign asks the function that the document names for it, of what lies
// there in its order, be it of cells or of names.
func TestReckonOfEachTwoCells(t *testing.T) {
	for _, a := range allRight() {
		for kind, op := range map[int64]func(impl.Cell) (impl.Cell, int64){impl.ItNot: impl.Not, impl.ItLacks: impl.IsNone} {
			c, f := op(a)
			wantOutcome(t, sum{cellItem(a), signItem(kind)}, nil, nil, outcome{c, f})
			wantOutcome(t, sum{nameItem("b"), signItem(kind)}, letters(2), row{number(1), a}, outcome{c, f})
		}
		for _, b := range allRight() {
			for i, op := range pairOps() {
				c, f := op(a, b)
				sign := signItem(pairKind(i))
				wantOutcome(t, sum{cellItem(a), cellItem(b), sign}, nil, nil, outcome{c, f})
				wantOutcome(t, sum{nameItem("a"), nameItem("b"), sign}, letters(2), row{a, b}, outcome{c, f})
				wantOutcome(t, sum{nameItem("b"), nameItem("a"), sign}, letters(3), row{b, a, {}}, outcome{c, f})
				wantOutcome(t, sum{nameItem("c"), cellItem(b), sign}, letters(3), row{{}, b, a}, outcome{c, f})
				wantOutcome(t, sum{cellItem(a), nameItem("c"), sign}, letters(3), row{a, {}, b}, outcome{c, f})
			}
		}
	}
}

func TestReckonOfSumsWithinSums(t *testing.T) {
	for _, c := range [][3]string{
		{"1 + 2 * 3", "", "7"}, {"(1 + 2) * 3", "", "9"}, {"10 - 4 - 3", "", "3"}, {"10 - (4 - 3)", "", "9"}, {"100 / 7 / 2", "", "7"}, {"100 / (7 / 2)", "", "33"}, {"7 / 2 * 2", "", "6"}, {"2 * 7 / 2", "", "7"},
		{"a + b * c - d", "2 3 4 5", "9"}, {"(a + b) * (c - d)", "2 3 4 5", "-5"}, {"a * b + c * d", "2 3 4 5", "26"}, {"a - (b - (c - d))", "2 3 4 5", "-2"}, {"a + a + a", "7 0 0 0", "21"},
		{"a < b and b < c and c < d", "2 3 4 5", "yes"}, {"a < b and b < c and c < d", "2 3 4 4", "no"}, {"a < b and b < c and c < d", "2 3 none 5", "none"}, {"a < b and b < c and c < d", "2 none none 2", "none"}, {"a < b and b < c", "5 4 none 0", "no"},
		{"a = b or c = d", "1 2 'x' 'x'", "yes"}, {"a = b or c = d", "1 2 'x' 'y'", "no"}, {"a = b or c = d", "1 2 'x' none", "none"}, {"a = b or c = d", "1 1 'x' none", "yes"}, {"not (a = b) and not lacks c", "1 2 0 0", "yes"},
		{"lacks a or a < 5", "none 0 0 0", "yes"}, {"lacks a or a < 5", "4 0 0 0", "yes"}, {"lacks a or a < 5", "5 0 0 0", "no"}, {"lacks (a + b)", "1 none 0 0", "yes"}, {"lacks (a + b)", "1 2 0 0", "no"}, {"lacks lacks a", "none 0 0 0", "no"},
		{"a = (b < c)", "yes 1 2 0", "yes"}, {"(a = b) = (c = d)", "1 2 3 4", "yes"}, {"(a = b) < (c = d)", "1 2 4 4", "yes"}, {"not not a", "yes 0 0 0", "yes"}, {"not (a and b) or c", "yes yes no 0", "no"},
		{"1000000000 + a - a", "1 0 0 0", "over"}, {"1000000000 - a + a", "1 0 0 0", "1000000000"}, {"a * a / a", "100000 0 0 0", "over"}, {"a / a * a", "100000 0 0 0", "100000"}, {"1 / (a - a)", "5 0 0 0", "zero"},
		{"lacks (1 / 0)", "", "zero"}, {"lacks ('x' + 1)", "", "kind"}, {"lacks (1000000000 * 2)", "", "over"}, {"no and 1 / 0 = 1", "", "zero"}, {"yes or 1", "", "kind"}, {"none and 1 / 0 = 1", "", "zero"},
	} {
		s := c[1]
		if s == "" {
			wantOutcome(t, readText(t, c[0]), nil, nil, outcomeFrom(t, c[2]))
			s = "1 2 3 4"
		}
		wantWritten(t, c[0], s, c[2])
	}
}

// No build of a sum and no fault is left out: each of them comes often.
func TestReckonOfAllSmallSums(t *testing.T) {
	rows := []row{{number(2), number(-3)}, {number(0), truth(1)}, {{}, truth(0)}, {text("x"), text("x")}, {truth(1), {}}, {number(topNumber), number(1)}}
	small := smallSums(6, aloneSum(nameItem("a"), "a"), aloneSum(nameItem("b"), "b"))
	counts := map[int64]int{}
	for _, w := range small {
		for _, r := range rows {
			counts[wantByTree(t, w.sum, letters(2), r).fault]++
		}
	}
	for _, fault := range []int64{impl.FtNone, impl.FtOver, impl.FtZero, impl.FtKind} {
		if counts[fault] < 100 {
			t.Errorf("only %d have the fault %d", counts[fault], fault)
		}
	}
}

// numberSum and truthSum make sums of about that size that seldom fail.
func numberSum(d *dice, size int) sum {
	if size < 3 {
		return []sum{{nameItem("a")}, {nameItem("b")}, {numberItem(int64(d.below(9) - 4))}, {nameItem("c")}}[d.below(4)]
	}
	first := 1 + d.below(size-2)
	return slices.Concat(numberSum(d, first), numberSum(d, size-1-first), sum{signItem(impl.ItPlus + int64(d.below(4)))})
}

func truthSum(d *dice, size int) sum {
	switch {
	case size == 1:
		return []sum{{cellItem(truth(int64(d.below(2))))}, {nameItem("d")}}[d.below(2)]
	case size == 2 || d.below(5) == 0:
		return append(truthSum(d, size-1), signItem(impl.ItNot+int64(d.below(2))))
	case d.below(2) == 0:
		return slices.Concat(numberSum(d, size/2), numberSum(d, (size-1)/2), sum{signItem(impl.ItSame + int64(d.below(2)))})
	}
	first := 1 + d.below(size-2)
	return slices.Concat(truthSum(d, first), truthSum(d, size-1-first), sum{signItem(impl.ItBoth + int64(d.below(2)))})
}

func TestReckonOfGreaterSums(t *testing.T) {
	d, fine := &dice{9}, 0
	for n := range 20000 {
		l := truthSum(d, 1+n%impl.MaxItems)
		if n%3 == 0 {
			l = numberSum(d, 1+n%impl.MaxItems)
		}
		r := row{number(int64(d.below(41) - 20)), number(int64(1 + d.below(9))), number(int64(d.below(2000) - 1000)), threeAnswers()[d.below(3)]}
		if wantByTree(t, l, letters(4), r).fault == impl.FtNone {
			fine++
		}
	}
	if fine < 5000 {
		t.Errorf("only %d of them do not fail", fine)
	}
}

// everyName are all names that aloneSums have, as columns.
func everyName() []string {
	names := []string{}
	for _, w := range aloneSums() {
		if x := w.sum[0]; x.Kind == impl.ItName {
			names = append(names, x.Name)
		}
	}
	return names
}

func TestReckonOfMixedSums(t *testing.T) {
	columns, d := everyName(), &dice{4}
	for _, w := range slices.Concat(aloneSums(), mixedSums()) {
		r := row{}
		for range columns {
			r = append(r, allRight()[d.below(len(allRight()))])
		}
		wantByTree(t, w.sum, columns, r)
	}
}

// failing are parts that fail, each by its own fault.
func failing() map[int64][]string {
	return map[int64][]string{
		impl.FtOver: {"(1000000000 + 1)", "(a * 1000000000)", "(lacks (0 - 1000000000 - 1))"},
		impl.FtZero: {"(1 / 0)", "(a / (b - b))", "(not (1 / 0 = 1))"},
		impl.FtKind: {"('x' + 1)", "(not a)", "(lacks (yes + no))", "(b and yes)"},
	}
}

func TestTheFirstFaultCounts(t *testing.T) {
	for first, ones := range failing() {
		for _, one := range ones {
			wantWritten(t, one, "7 8 9 none", map[int64]string{1: "over", 2: "zero", 3: "kind"}[first])
			for _, others := range failing() {
				for _, other := range others {
					for _, sign := range pairSigns() {
						l := readText(t, one+sign+other)
						wantOutcome(t, l, letters(4), rowFrom(t, "7 8 9 none"), outcome{fault: first})
						wantOutcome(t, append(l, signItem(impl.ItNot)), letters(4), rowFrom(t, "7 8 9 none"), outcome{fault: first})
					}
				}
			}
		}
	}
}

// A sign at the end, of which both parts are fine, fails behind all that its
// parts do.
func TestAFaultAtTheBeginningInTheMidstAndAtTheEnd(t *testing.T) {
	for _, c := range [][2]string{
		{"1 / 0 + 'x'", "zero"}, {"'x' + 1 / 0", "zero"}, {"'x' + 1 + 1 / 0", "kind"}, {"1000000000 * 2 / 0", "over"}, {"1000000000 / 0 * 2", "zero"}, {"1 + (2 + (3 + (4 / 0))) * 'x'", "zero"},
		{"1 + (2 + (3 + (4 / 1))) * 'x'", "kind"}, {"1000000000 + 1 = 1 / 0", "over"}, {"1 / 0 = 1000000000 + 1", "zero"}, {"yes = 1 or 1 / 0 = 1", "kind"}, {"yes = no or 1 / 0 = 1", "zero"}, {"not (1 / 0)", "zero"}, {"not (1 / 1)", "kind"},
	} {
		wantWritten(t, c[0], "1 2 3 4", c[1])
	}
}

func TestReckonOfWhatIsJustNotTooGreat(t *testing.T) {
	for _, c := range [][3]string{
		{"a + 1", "999999999 0 0 0", "1000000000"}, {"a + 1", "1000000000 0 0 0", "over"}, {"a - 1", "-999999999 0 0 0", "-1000000000"}, {"a - 1", "-1000000000 0 0 0", "over"},
		{"a - b", "0 -1000000000 0 0", "1000000000"}, {"a - b", "1 -1000000000 0 0", "over"}, {"a * b", "100000 10000 0 0", "1000000000"}, {"a * b", "100000 10001 0 0", "over"}, {"a * b", "-100000 10000 0 0", "-1000000000"},
		{"a * b", "-100000 10001 0 0", "over"}, {"a * b", "1000000000 1000000000 0 0", "over"}, {"a / b", "-1000000000 -1 0 0", "1000000000"}, {"a + b + c", "500000000 499999999 1 0", "1000000000"}, {"a + b + c", "500000000 500000000 1 0", "over"},
		{"a", "1000000000 0 0 0", "1000000000"}, {"a", "-1000000000 0 0 0", "-1000000000"}, {"a < b", "-1000000000 1000000000 0 0", "yes"}, {"1000000000", "0 0 0 0", "1000000000"}, {"a - a", "-1000000000 0 0 0", "0"},
	} {
		wantWritten(t, c[0], c[1], c[2])
	}
}

// chain is first, and behind it as many times step.
func chain(first sum, count int, step ...impl.Item) sum {
	return append(slices.Clone(first), slices.Repeat(step, count)...)
}

func TestReckonOfMaxItemsAndOfOneMore(t *testing.T) {
	yes, one, not, plus := cellItem(truth(1)), numberItem(1), signItem(impl.ItNot), signItem(impl.ItPlus)
	wide := append(slices.Repeat(sum{one}, 20), slices.Repeat(sum{plus}, 19)...)
	for _, x := range []struct {
		sum   sum
		want  impl.Cell
		depth int64
	}{
		{chain(sum{yes}, 39, not), truth(0), 1}, {chain(sum{yes}, 38, not), truth(1), 1}, {chain(sum{nameItem("a")}, 39, signItem(impl.ItLacks)), truth(0), 1},
		{chain(sum{one}, 19, nameItem("a"), plus), number(58), 2}, {append(chain(sum{one}, 19, one, plus), signItem(impl.ItLacks)), truth(0), 2}, {wide, number(20), 20}, {append(slices.Clone(wide), signItem(impl.ItLacks)), truth(0), 20},
	} {
		if len(x.sum) < impl.MaxItems-1 || len(x.sum) > impl.MaxItems {
			t.Fatalf("%d Items", len(x.sum))
		}
		wantOutcome(t, x.sum, letters(1), row{number(3)}, outcome{cell: x.want})
		if depth := impl.DepthOf(x.sum); depth != x.depth {
			t.Errorf("DepthOf %s: %d; want %d", shownSum(x.sum), depth, x.depth)
		}
	}
	for _, l := range []sum{chain(sum{yes}, 40, not), chain(sum{one}, 20, one, plus), append(slices.Repeat(sum{one}, 21), slices.Repeat(sum{plus}, 20)...), chain(sum{yes}, 4000, not)} {
		wantNoReckoning(t, l)
	}
	for _, w := range longSums(impl.MaxItems) {
		wantByTree(t, w.sum, everyName(), slices.Repeat(row{truth(1)}, len(everyName())))
	}
	for _, w := range longSums(impl.MaxItems + 1) {
		wantNoReckoning(t, w.sum)
	}
}

// wantNoReckoning: what is no sum is refused of whatever columns and row, and
// nothing lies there.
func wantNoReckoning(t *testing.T, l sum) {
	t.Helper()
	for _, width := range []int{0, 1, 3} {
		wantOutcome(t, l, letters(width), mixedRow(1, width), outcome{fault: impl.FtKind})
	}
	wantOutcome(t, l, letters(2), row{number(1), truth(1)}, outcome{fault: impl.FtKind})
	if depth := impl.DepthOf(l); depth != 0 {
		t.Errorf("DepthOf %+v: %d", l, depth)
	}
}

func TestReckonOfNoSum(t *testing.T) {
	a, one, plus, not, by := nameItem("a"), numberItem(1), signItem(impl.ItPlus), signItem(impl.ItNot), signItem(impl.ItBy)
	wantNoReckoning(t, nil)
	for _, l := range []sum{{}, {a, one}, {a, a, a, plus}, {a, plus, a}, {plus, a, a}, {a, plus}, {plus}, {not}, {not, a}, {a, not, plus}, {a, one, plus, plus}, {one, numberItem(0), by, one}, {one, numberItem(0), by, plus}, {cellItem(truth(1)), cellItem(truth(1))}} {
		wantNoReckoning(t, l)
	}
	for _, x := range wrongItems() {
		for _, l := range []sum{{x}, {a, x}, {x, a}, {x, not}, {x, one, plus}, {one, x, plus}, {one, one, x}, {one, numberItem(0), by, x, plus}} {
			wantNoReckoning(t, l)
		}
	}
	for _, l := range allLists(6, one, plus, not) {
		if leftOver(l) != 1 {
			wantNoReckoning(t, l)
		}
	}
}

func TestReckonOfNoColumnsAndNoRow(t *testing.T) {
	for _, c := range [][2]string{{"1 + 2", "3"}, {"none", "none"}, {"'x' = 'x'", "yes"}, {"1 < 1", "no"}, {"lacks none", "yes"}, {"1 / 0", "zero"}, {"1000000000 * 2", "over"}, {"not 1", "kind"}, {"a", "kind"}, {"lacks a", "kind"}, {"1 / 0 + a", "kind"}} {
		l, want := readText(t, c[0]), outcomeFrom(t, c[1])
		for _, columns := range [][]string{nil, {}, letters(3)[:0]} {
			for _, r := range []row{nil, {}, mixedRow(1, 3)[:0]} {
				wantOutcome(t, l, columns, r, want)
			}
		}
	}
}

// Of a column that comes twice it is the first one that ColumnOf finds.
func TestReckonOfAColumnThatComesTwice(t *testing.T) {
	r := row{number(1), number(2), number(3), number(4)}
	wantOutcome(t, readText(t, "a"), []string{"a", "a", "b", "b"}, r, outcome{cell: number(1)})
	wantOutcome(t, readText(t, "b"), []string{"a", "a", "b", "b"}, r, outcome{cell: number(3)})
	wantOutcome(t, readText(t, "a * 10 + b"), []string{"b", "a", "a", "b"}, r, outcome{cell: number(21)})
	wantOutcome(t, readText(t, "a - a"), []string{"b", "b", "b", "a"}, r, outcome{cell: number(0)})
	wantOutcome(t, readText(t, "a"), []string{"a", "a"}, row{number(1), truth(2)}, outcome{fault: impl.FtKind})
	wantOutcome(t, readText(t, "a"), []string{"a", "a"}, row{number(1)}, outcome{fault: impl.FtKind})
}

// Nothing is told of columns but that they are as many as the row is long:
// texts that are no names, and more than MaxColumns, stand there for nothing.
func TestReckonOfColumnsThatAreNotRight(t *testing.T) {
	for _, name := range append(wrongNames(), signWords()...) {
		wantOutcome(t, readText(t, "a + 1"), []string{name, "a"}, row{number(5), number(6)}, outcome{cell: number(7)})
		wantOutcome(t, readText(t, "1 + 1"), []string{name}, row{number(5)}, outcome{cell: number(2)})
		wantOutcome(t, readText(t, "a + 1"), []string{name}, row{number(5)}, outcome{fault: impl.FtKind})
	}
	for _, width := range []int{impl.MaxColumns, impl.MaxColumns + 1, 2 * impl.MaxColumns, 26} {
		r := slices.Repeat(row{number(5)}, width)
		r[width-1] = number(-3)
		wantOutcome(t, sum{nameItem("a"), nameItem(letters(width)[width-1]), signItem(impl.ItPlus)}, letters(width), r, outcome{cell: number(2)})
	}
	wantOutcome(t, readText(t, "a"), append(slices.Repeat([]string{"b"}, 3000), "a"), append(make(row, 3000), number(8)), outcome{cell: number(8)})
}

func TestReckonOfTheLastColumn(t *testing.T) {
	for width := 1; width <= impl.MaxColumns; width++ {
		columns := letters(width)
		last, beyond := columns[width-1], letters(width + 1)[width]
		r := append(slices.Repeat(row{{}}, width-1), number(41))
		wantOutcome(t, sum{nameItem(last), numberItem(1), signItem(impl.ItPlus)}, columns, r, outcome{cell: number(42)})
		wantOutcome(t, sum{nameItem(beyond), numberItem(1), signItem(impl.ItPlus)}, columns, r, outcome{fault: impl.FtKind})
	}
	wantOutcome(t, readText(t, "count"), []string{"a", "counts", "coun", "count"}, mixedRow(2, 4), outcome{cell: mixedRow(2, 4)[3]})
}

func TestReckonOfWhatNamesNoColumn(t *testing.T) {
	for _, c := range [][2]string{{"1 + 2", "3"}, {"none", "none"}, {"'a' = 'a'", "yes"}, {"lacks 1", "no"}, {"1 / 0", "zero"}, {"yes and none", "none"}} {
		for n := range 20 {
			for width := range 8 {
				wantOutcome(t, readText(t, c[0]), letters(width), mixedRow(n, width), outcomeFrom(t, c[1]))
			}
		}
	}
}

// otherFaults are sums that fail by something else, or not at all, where all
// is right: with what is wrong beside it they are FtKind.
func otherFaults() []string {
	return []string{"1", "none", "yes", "1 + 1", "1 / 0", "1000000000 + 1", "lacks none", "a", "lacks a", "a / 0", "a * 1000000000", "0 < 1 / 0"}
}

func TestReckonOfANameThatIsNoColumn(t *testing.T) {
	for _, s := range otherFaults() {
		for _, l := range []string{"z", "lacks z", "z + (%)", "(%) + z", "(%) = (%) or lacks z", "lacks z and (%)", "(%) / z", "z / 0 * (%)"} {
			wantWritten(t, strings.ReplaceAll(l, "%", s), "7 8 9 none", "kind")
		}
	}
	for _, c := range [][3]string{{"1 / 0 + a", "a", "zero"}, {"1 / 0 + a", "b", "kind"}, {"1000000000 + 1 < ab", "ab", "over"}, {"1000000000 + 1 < ab", "a", "kind"}, {"a + ab", "ab", "kind"}, {"lacks a", "aa", "kind"}, {"lacks aa", "a", "kind"}} {
		wantOutcome(t, readText(t, c[0]), []string{c[1]}, row{number(5)}, outcomeFrom(t, c[2]))
	}
}

func TestReckonOfARowThatIsLongerOrShorter(t *testing.T) {
	for _, s := range otherFaults() {
		l := readText(t, s)
		for width := 1; width < 9; width++ {
			for count := range 10 {
				if count != width {
					wantOutcome(t, l, letters(width), slices.Repeat(row{number(7)}, count), outcome{fault: impl.FtKind})
				}
			}
			wantOutcome(t, l, letters(width), nil, outcome{fault: impl.FtKind})
		}
		wantOutcome(t, l, nil, row{number(7)}, outcome{fault: impl.FtKind})
		wantOutcome(t, l, []string{}, row{{}}, outcome{fault: impl.FtKind})
		wantOutcome(t, l, letters(3), make(row, 5000), outcome{fault: impl.FtKind})
		wantOutcome(t, l, slices.Repeat(letters(1), 5000), row{number(7)}, outcome{fault: impl.FtKind})
	}
}

// Spare room behind a row is none of it, and behind columns neither.
func TestReckonLooksIntoNoSpareRoom(t *testing.T) {
	whole := row{number(1), number(2), truth(2)}
	wantOutcome(t, readText(t, "a + b"), letters(2), whole[:2], outcome{cell: number(3)})
	wantOutcome(t, readText(t, "a + b"), letters(2), whole[:1], outcome{fault: impl.FtKind})
	wantOutcome(t, readText(t, "c"), letters(3)[:2], whole[:2], outcome{fault: impl.FtKind})
	l := readText(t, "a + b")
	wantOutcome(t, l[:2], letters(2), whole[:2], outcome{fault: impl.FtKind})
	wantOutcome(t, l[:1], letters(2), whole[:2], outcome{cell: number(1)})
}

func TestReckonOfAWrongCellInTheRow(t *testing.T) {
	for _, s := range append(otherFaults(), "b", "c + 1", "a + b + c") {
		l := readText(t, s)
		for _, c := range wrongCells() {
			for width := 3; width <= impl.MaxColumns; width++ {
				for at := range width {
					r := slices.Repeat(row{number(7)}, width)
					r[at] = c
					wantOutcome(t, l, letters(width), r, outcome{fault: impl.FtKind})
				}
			}
			wantOutcome(t, l, letters(3), row{c, c, c}, outcome{fault: impl.FtKind})
		}
	}
}

func wantPasses(t *testing.T, s string, r string, want bool, fault int64) {
	t.Helper()
	if is, f := impl.Passes(readText(t, s), letters(4), rowFrom(t, r)); is != want || f != fault {
		t.Errorf("Passes %s of %s: %v, %d; want %v, %d", s, r, is, f, want, fault)
	}
}

func TestPassesOfYesNoAndNobodyKnows(t *testing.T) {
	r := "3 5 none yes"
	for _, s := range []string{"yes", "d", "a < b", "a + 2 = b", "lacks c", "not lacks a", "d and a < b", "lacks c or a = b", "d = yes", "not not d", "no < d"} {
		wantPasses(t, s, r, true, impl.FtNone)
	}
	for _, s := range []string{"no", "not d", "b < a", "a = b", "lacks a", "not lacks c", "d and b < a", "lacks lacks c", "c and b < a", "d < no"} {
		wantPasses(t, s, r, false, impl.FtNone)
	}
	for _, s := range []string{"none", "c", "a + c", "c / 0", "a < c", "c = c", "not c", "c and d", "c or no", "none = none", "'x' = c", "none + 1"} {
		wantPasses(t, s, r, false, impl.FtNone)
	}
}

func TestPassesOfNumbersAndTexts(t *testing.T) {
	for _, s := range []string{"0", "1", "-1", "a", "a + b", "a * 0", "a - 2", "1000000000", "''", "'a'", "'yes'", "c", "b / a"} {
		wantPasses(t, s, "3 5 'x' yes", false, impl.FtKind)
	}
}

func TestPassesOfWhatFails(t *testing.T) {
	for _, x := range []struct {
		sum   string
		fault int64
	}{
		{"a / 0", impl.FtZero}, {"a / 0 = 1", impl.FtZero}, {"d or a / 0 = 1", impl.FtZero}, {"1000000000 + a", impl.FtOver}, {"b < 1000000000 * b", impl.FtOver}, {"not (1000000000 * a < 1)", impl.FtOver},
		{"a = 'x'", impl.FtKind}, {"a and d", impl.FtKind}, {"d and a", impl.FtKind}, {"not a", impl.FtKind}, {"z", impl.FtKind}, {"d or z", impl.FtKind}, {"yes or a / 0 = z", impl.FtKind},
	} {
		wantPasses(t, x.sum, "3 5 'x' yes", false, x.fault)
	}
}

func TestDepthOfSums(t *testing.T) {
	for s, want := range map[string]int64{
		"a": 1, "1": 1, "none": 1, "lacks a": 1, "not not lacks a": 1, "a + b": 2, "not (a + b)": 2, "a + b + c": 2, "a + b + c + d + a": 2, "a + (b + c)": 3, "a + b * c": 3, "a * b + c": 2, "(a + b) * (c + d)": 3, "a < b and c < d": 3,
		"a + (b + (c + d))": 4, "(a + (b + c)) + d": 3, "(a + (b + c)) + (d + a)": 3, "(a + b) + (c + (d + a))": 4, "((a + b) + (c + d)) + ((a + b) + (c + d))": 4, "a + lacks (b + c)": 3, "lacks (a + b) + c": 2, "a = (not b)": 2,
		"a or b or c and d": 3, "a + (b + (c + (d + (a + (b + (c + d))))))": 8,
	} {
		if depth := impl.DepthOf(readText(t, s)); depth != want {
			t.Errorf("DepthOf %s: %d; want %d", s, depth, want)
		}
	}
	for count := 1; count <= 20; count++ {
		l := append(slices.Repeat(sum{numberItem(1)}, count), slices.Repeat(sum{signItem(impl.ItPlus)}, count-1)...)
		if depth := impl.DepthOf(l); depth != int64(count) {
			t.Errorf("DepthOf %d ahead of their signs: %d", count, depth)
		}
	}
}

// Promise 9: only names that are in a sum matter to it.
func TestPromise9OtherColumnsDoNotMatter(t *testing.T) {
	columns := []string{"x", "a", "y", "b", "z"}
	small := smallSums(4, aloneSum(nameItem("a"), "a"), aloneSum(nameItem("b"), "b"), aloneSum(numberItem(2), "2"))
	for i, a := range allRight() {
		b := allRight()[(i*5+3)%len(allRight())]
		for k, w := range small {
			c, f := impl.Reckon(w.sum, []string{"a", "b"}, row{a, b})
			wantOutcome(t, w.sum, columns, row{{}, a, {}, b, {}}, outcome{c, f})
			wantOutcome(t, w.sum, columns, row{mixedRow(k, 1)[0], a, allRight()[k%len(allRight())], b, truth(1)}, outcome{c, f})
			wantOutcome(t, w.sum, []string{"b", "a"}, row{b, a}, outcome{c, f})
			wantOutcome(t, w.sum, []string{"q", "b", "a"}, row{text("x"), b, a}, outcome{c, f})
		}
	}
}

// Promise 9: each cell in a column that the sum does not name may be any other
// right one, and a name that is not there may be taken away.
func TestPromise9OfEachOtherCell(t *testing.T) {
	for _, s := range []string{"b", "b + 1", "b < b", "lacks b", "b / 0", "1 + 1", "none", "not b", "b and yes", "b * 1000000000"} {
		l := readText(t, s)
		for _, b := range allRight() {
			c, f := impl.Reckon(l, []string{"b"}, row{b})
			for _, other := range allRight() {
				wantOutcome(t, l, letters(3), row{other, b, {}}, outcome{c, f})
				wantOutcome(t, l, letters(3), row{number(0), b, other}, outcome{c, f})
			}
		}
	}
}

// A name that is in a sum does matter: other cells there make others.
func TestPromise9NamesInASumMatter(t *testing.T) {
	for _, c := range allRight() {
		wantOutcome(t, readText(t, "c"), letters(3), row{number(5), text("x"), c}, outcome{cell: c})
	}
	for n := range int64(20) {
		wantOutcome(t, readText(t, "a * 100 + b"), letters(3), row{number(n), number(19 - n), number(7)}, outcome{cell: number(n*99 + 19)})
	}
}

// Promise 9: what is not MayFail does not fail where all is right.
func TestPromise9WhatMayNotFailDoesNot(t *testing.T) {
	for _, c := range allRight() {
		for _, first := range []impl.Item{cellItem(c), nameItem("a"), nameItem("b")} {
			for count := range impl.MaxItems {
				l := chain(sum{first}, count, signItem(impl.ItLacks))
				want := truthOf(count == 1 && c.Kind == impl.CeNone)
				if count == 0 {
					want = c
				}
				if impl.MayFail(l) {
					t.Errorf("%s may fail", shownSum(l))
				}
				wantOutcome(t, l, letters(2), row{c, c}, outcome{cell: want})
			}
		}
	}
	for _, w := range slices.Concat(smallSums(6, aloneSum(nameItem("a"), "a"), aloneSum(cellItem(text("x")), "'x'")), mixedSums()) {
		for n := range 6 {
			columns := append([]string{"a"}, everyName()...)
			if _, f := impl.Reckon(w.sum, columns, mixedRow(n, len(columns))); f != impl.FtNone && !impl.MayFail(w.sum) {
				t.Errorf("%s is not MayFail, and fails by %d", w.text, f)
			}
		}
	}
}

// Promise 9: of two sums side by side the one lies there while the other one
// is reckoned.
func TestPromise9DepthOfTwoSumsSideBySide(t *testing.T) {
	sums := smallSums(4, aloneSum(nameItem("a"), "a"), aloneSum(numberItem(2), "2"))[:200]
	for n := range 60 {
		sums = append(sums, mixedSum(&dice{uint64(n)}, 1+n%19, aloneSums()))
	}
	for _, one := range sums {
		for _, other := range sums {
			want := max(impl.DepthOf(one.sum), impl.DepthOf(other.sum)+1)
			for _, sign := range pairSigns() {
				if w := pairSum(one, sign, other); impl.DepthOf(w.sum) != want {
					t.Errorf("DepthOf %s: %d; want %d", w.text, impl.DepthOf(w.sum), want)
				}
			}
		}
		for _, sign := range signWords()[2:] {
			if w := aheadSum(sign, one); impl.DepthOf(w.sum) != impl.DepthOf(one.sum) {
				t.Errorf("DepthOf %s: %d; want %d", w.text, impl.DepthOf(w.sum), impl.DepthOf(one.sum))
			}
		}
	}
}

// A fault leaves nothing behind it: the same is answered ahead of it and
// behind it.
func TestReckonBehindAFault(t *testing.T) {
	for _, s := range []string{"1 / 0", "1000000000 * 2", "not 1", "z"} {
		wantWritten(t, "a + b", "3 4 0 0", "7")
		impl.Reckon(readText(t, s), letters(4), mixedRow(1, 4))
		impl.Passes(readText(t, s), letters(4), mixedRow(1, 4))
		wantWritten(t, "a + b", "3 4 0 0", "7")
	}
}

func TestReckoningLeavesItsArguments(t *testing.T) {
	sums := []sum{nil, {}, {signItem(impl.ItPlus)}, {nameItem("a"), nameItem("b")}, wrongItems()}
	for _, w := range slices.Concat(someSums(), longSums(impl.MaxItems), longSums(impl.MaxItems+1)) {
		sums = append(sums, w.sum)
	}
	for _, s := range append(otherFaults(), "a + b", "b / a * (a - b)", "z", "a < b and lacks c", "'x' + a") {
		sums = append(sums, readText(t, s))
	}
	rows := []row{nil, {}, {number(1)}, {number(1), number(2)}, {number(1), number(2), number(3)}, {text("x"), {}, truth(1)}, {truth(1), truth(0), {}}, {number(1), truth(2), {}}, mixedRow(3, 4)}
	for _, x := range sums {
		for _, r := range rows {
			for _, columns := range [][]string{nil, letters(2), letters(3), everyName(), {"b", "a", "a"}} {
				wantLeft(t, roomySum(x), roomyColumns(columns), roomyRow(r))
			}
		}
	}
}

// wantLeft: the three write neither into what they are given nor into the
// spare room behind it, and answer the same again.
func wantLeft(t *testing.T, l sum, columns []string, r row) {
	t.Helper()
	beforeSum, beforeColumns, beforeRow := slices.Clone(l[:cap(l)]), slices.Clone(columns[:cap(columns)]), slices.Clone(r[:cap(r)])
	c, f := impl.Reckon(l, columns, r)
	impl.Passes(l, columns, r)
	depth := impl.DepthOf(l)
	if !slices.Equal(beforeSum, l[:cap(l)]) || !slices.Equal(beforeColumns, columns[:cap(columns)]) || !slices.Equal(beforeRow, r[:cap(r)]) {
		t.Errorf("one of the three writes into %s, %q or %+v", shownSum(l), columns, r)
	}
	wantOutcome(t, l, columns, r, outcome{c, f})
	if impl.DepthOf(l) != depth {
		t.Errorf("DepthOf %s is another one", shownSum(l))
	}
}
