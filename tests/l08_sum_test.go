package tests

import (
	"fmt"
	"maps"
	"math"
	"slices"
	"strings"
	"testing"

	"loop.example/g00536/impl"
)

type sum = []impl.Item

func nameItem(s string) impl.Item { return impl.Item{Kind: impl.ItName, Name: s} }

func cellItem(c impl.Cell) impl.Item { return impl.Item{Kind: impl.ItCell, Cell: c} }

func numberItem(n int64) impl.Item { return cellItem(number(n)) }

func signItem(kind int64) impl.Item { return impl.Item{Kind: kind} }

// pairSigns are the signs of two, ItPlus first, in the order of their Kinds.
func pairSigns() []string { return []string{"+", "-", "*", "/", "=", "<", "and", "or"} }

func pairKind(i int) int64 { return impl.ItPlus + int64(i) }

// aheadSigns are the signs of one.
func aheadSigns() map[string]int64 {
	return map[string]int64{"not": impl.ItNot, "lacks": impl.ItLacks}
}

// A writtenSum is a sum with what ShowSum is to make of it.
type writtenSum struct {
	sum  sum
	text string
}

func aloneSum(x impl.Item, text string) writtenSum { return writtenSum{sum{x}, text} }

func aheadSum(sign string, one writtenSum) writtenSum {
	return writtenSum{append(slices.Clone(one.sum), signItem(aheadSigns()[sign])), "(" + sign + " " + one.text + ")"}
}

func pairSum(one writtenSum, sign string, other writtenSum) writtenSum {
	kind := pairKind(slices.Index(pairSigns(), sign))
	return writtenSum{slices.Concat(one.sum, other.sum, sum{signItem(kind)}), "(" + one.text + " " + sign + " " + other.text + ")"}
}

// aloneSums are all that stand alone: names and cells at their edges.
func aloneSums() []writtenSum {
	list := []writtenSum{}
	for _, w := range writtenTokens() {
		switch w.token.Kind {
		case impl.TkName:
			list = append(list, aloneSum(nameItem(w.token.Text), w.text))
		case impl.TkCell:
			list = append(list, aloneSum(cellItem(w.token.Cell), w.text))
		}
	}
	return list
}

// smallSums are all sums of at most n Items, with these alone.
func smallSums(n int, alone ...writtenSum) []writtenSum {
	bySize := [][]writtenSum{nil, alone}
	for size := 2; size <= n; size++ {
		next := []writtenSum{}
		for _, one := range bySize[size-1] {
			next = append(next, aheadSum("not", one), aheadSum("lacks", one))
		}
		for first := 1; first < size-1; first++ {
			for _, one := range bySize[first] {
				for _, other := range bySize[size-1-first] {
					for _, sign := range pairSigns() {
						next = append(next, pairSum(one, sign, other))
					}
				}
			}
		}
		bySize = append(bySize, next)
	}
	return slices.Concat(bySize...)
}

// A dice has always the same throws.
type dice struct{ state uint64 }

func (d *dice) below(n int) int {
	d.state = d.state*6364136223846793005 + 1442695040888963407
	return int(d.state>>33) % n
}

// mixedSum is a sum of just that many Items.
func mixedSum(d *dice, size int, alone []writtenSum) writtenSum {
	switch {
	case size == 1:
		return alone[d.below(len(alone))]
	case size == 2 || d.below(4) == 0:
		return aheadSum(signWords()[2+d.below(2)], mixedSum(d, size-1, alone))
	}
	first := 1 + d.below(size-2)
	return pairSum(mixedSum(d, first, alone), pairSigns()[d.below(8)], mixedSum(d, size-1-first, alone))
}

// mixedSums has sums of each size up to MaxItems.
func mixedSums() []writtenSum {
	list, alone, d := []writtenSum{}, aloneSums(), &dice{}
	for size := 1; size <= impl.MaxItems; size++ {
		for range 40 {
			list = append(list, mixedSum(d, size, alone))
		}
	}
	return list
}

// longSums has, of just that many Items, sums of each build: signs of one
// upon one another, and signs of two that lean to the left, to the right and
// to both.
func longSums(size int) []writtenSum {
	a, list := aloneSum(nameItem("a"), "a"), []writtenSum{}
	for _, sign := range signWords()[2:] {
		x := a
		for len(x.sum) < size {
			x = aheadSum(sign, x)
		}
		list = append(list, x)
	}
	for i, sign := range pairSigns() {
		left, right := a, a
		if size%2 == 0 {
			left, right = aheadSum("lacks", a), aheadSum("not", a)
		}
		for n := i; len(left.sum) < size; n++ {
			left, right = pairSum(left, sign, a), pairSum(a, pairSigns()[n%8], right)
		}
		list = append(list, left, right)
	}
	for seed := range 20 {
		list = append(list, mixedSum(&dice{uint64(seed)}, size, aloneSums()))
	}
	return list
}

// someSums are the ordinary ones, as they are written by hand.
func someSums() []writtenSum {
	a, b, plus, both := nameItem("a"), nameItem("b"), signItem(impl.ItPlus), signItem(impl.ItBoth)
	not, lacks, less := signItem(impl.ItNot), signItem(impl.ItLacks), signItem(impl.ItLess)
	return []writtenSum{
		{sum{a}, "a"}, {sum{numberItem(-5)}, "-5"}, {sum{cellItem(impl.Cell{})}, "none"}, {sum{cellItem(truth(1))}, "yes"}, {sum{cellItem(truth(0))}, "no"}, {sum{cellItem(text("ab"))}, "'ab'"}, {sum{cellItem(text(""))}, "''"},
		{sum{a, b, plus}, "(a + b)"}, {sum{a, b, less}, "(a - b)"}, {sum{b, a, signItem(impl.ItTimes)}, "(b * a)"}, {sum{a, b, signItem(impl.ItBy)}, "(a / b)"}, {sum{a, b, signItem(impl.ItSame)}, "(a = b)"},
		{sum{a, b, signItem(impl.ItBelow)}, "(a < b)"}, {sum{a, b, both}, "(a and b)"}, {sum{a, b, signItem(impl.ItEither)}, "(a or b)"}, {sum{a, not}, "(not a)"}, {sum{a, lacks}, "(lacks a)"},
		{sum{a, b, plus, not}, "(not (a + b))"}, {sum{a, not, b, plus}, "((not a) + b)"}, {sum{a, b, not, plus}, "(a + (not b))"}, {sum{a, not, not}, "(not (not a))"}, {sum{a, lacks, lacks}, "(lacks (lacks a))"},
		{sum{a, numberItem(-5), less}, "(a - -5)"}, {sum{numberItem(5), numberItem(3), less}, "(5 - 3)"}, {sum{a, b, a, less, less}, "(a - (b - a))"}, {sum{a, b, less, a, less}, "((a - b) - a)"},
		{sum{a, a, a, plus, plus, a, plus}, "((a + (a + a)) + a)"}, {sum{a, b, plus, b, a, less, signItem(impl.ItTimes)}, "((a + b) * (b - a))"},
		{sum{a, not, b, lacks, both}, "((not a) and (lacks b))"}, {sum{a, b, signItem(impl.ItSame), a, signItem(impl.ItBelow)}, "((a = b) < a)"},
	}
}

func wrongItems() sum {
	list := sum{
		{}, {Kind: -1}, {Kind: 13}, {Kind: 14}, {Kind: math.MaxInt64}, {Kind: math.MinInt64}, {Kind: 256 + impl.ItPlus}, {Kind: 1<<32 + impl.ItPlus}, {Kind: 1<<32 + impl.ItNot}, {Kind: 1<<32 + impl.ItCell},
		{Kind: 1<<32 + impl.ItName, Name: "a"}, {Name: "a"}, {Kind: 13, Name: "a"}, {Cell: number(1)}, {Kind: 13, Cell: number(1)}, {Kind: -impl.ItPlus}, {Kind: -impl.ItNot},
		{Kind: impl.ItCell, Name: "a"}, {Kind: impl.ItCell, Cell: number(1), Name: "a"}, {Kind: impl.ItCell, Cell: text("a"), Name: "a"}, {Kind: impl.ItCell, Cell: truth(1), Name: " "}, {Kind: impl.ItName},
	}
	for _, s := range slices.Concat(wrongNames(), signBytes(), signWords(), cellWords()) {
		list = append(list, nameItem(s))
	}
	for _, c := range wrongCells() {
		list = append(list, cellItem(c))
	}
	// Of a name and a sign any Cell is wrong but the zero one.
	for _, c := range slices.Concat(wrongCells(), slices.Concat(rightCells()...)) {
		list = append(list, impl.Item{Kind: impl.ItName, Name: "a", Cell: c})
		for kind := int64(impl.ItPlus); kind <= impl.ItLacks; kind++ {
			list = append(list, impl.Item{Kind: kind, Cell: c})
		}
	}
	for kind := int64(impl.ItPlus); kind <= impl.ItLacks; kind++ {
		list = append(list, impl.Item{Kind: kind, Name: "a"}, impl.Item{Kind: kind, Name: "+"}, impl.Item{Kind: kind, Name: " "})
	}
	return list
}

// wantNoSum: each function answers as of what is no sum.
func wantNoSum(t *testing.T, l sum) {
	t.Helper()
	if impl.SumOk(l) || impl.ShowSum(l) != "" || len(impl.NamesOf(l)) != 0 || !impl.MayFail(l) {
		t.Errorf("%+v is no sum: SumOk %v, ShowSum %q, NamesOf %q, MayFail %v", l, impl.SumOk(l), impl.ShowSum(l), impl.NamesOf(l), impl.MayFail(l))
	}
}

// wantSum: SumOk, ShowSum, NamesOf and MayFail of a sum.
func wantSum(t *testing.T, w writtenSum) {
	t.Helper()
	names, fails := map[string]int{}, false
	for _, x := range w.sum {
		if x.Kind == impl.ItName {
			names[x.Name]++
		}
		fails = fails || !slices.Contains([]int64{impl.ItCell, impl.ItName, impl.ItLacks}, x.Kind)
	}
	if !impl.SumOk(w.sum) || impl.ShowSum(w.sum) != w.text {
		t.Errorf("%+v: SumOk %v, ShowSum %q; want %q", w.sum, impl.SumOk(w.sum), impl.ShowSum(w.sum), w.text)
	}
	if want := slices.Sorted(maps.Keys(names)); !slices.Equal(impl.NamesOf(w.sum), want) || impl.MayFail(w.sum) != fails {
		t.Errorf("%s: NamesOf %q, MayFail %v; want %q %v", w.text, impl.NamesOf(w.sum), impl.MayFail(w.sum), want, fails)
	}
}

func TestSumsOfEachKind(t *testing.T) {
	for _, w := range append(someSums(), aloneSums()...) {
		wantSum(t, w)
	}
	kinds := []int64{impl.ItCell, impl.ItName, impl.ItPlus, impl.ItLess, impl.ItTimes, impl.ItBy, impl.ItSame, impl.ItBelow, impl.ItBoth, impl.ItEither, impl.ItNot, impl.ItLacks}
	for i, kind := range kinds {
		if kind != int64(i+1) {
			t.Errorf("the kind %d is %d", i+1, kind)
		}
	}
}

func TestSmallAndMixedSums(t *testing.T) {
	for _, w := range smallSums(6, aloneSum(nameItem("b"), "b"), aloneSum(numberItem(-1), "-1")) {
		wantSum(t, w)
	}
	for _, w := range mixedSums() {
		wantSum(t, w)
	}
}

func TestSumsOfMaxItemsAndOfOneMore(t *testing.T) {
	for _, w := range longSums(impl.MaxItems) {
		if len(w.sum) != 40 {
			t.Fatalf("%d Items", len(w.sum))
		}
		wantSum(t, w)
	}
	for _, size := range []int{impl.MaxItems + 1, impl.MaxItems + 2, 3 * impl.MaxItems} {
		for _, w := range longSums(size) {
			if len(w.sum) != size {
				t.Fatalf("%d Items", len(w.sum))
			}
			wantNoSum(t, w.sum)
		}
	}
}

// leftOver is how many lie there at the end, by going from the end to the
// beginning: each sum is its last Item and ahead of it the sums it asks for.
// -1 where one of these is not there.
func leftOver(l sum) int {
	count := 0
	for len(l) > 0 {
		rest, is := withoutLastSum(l)
		if !is {
			return -1
		}
		l, count = rest, count+1
	}
	return count
}

func withoutLastSum(l sum) (sum, bool) {
	if len(l) == 0 {
		return nil, false
	}
	rest, asks, is := l[:len(l)-1], 2, true
	switch l[len(l)-1].Kind {
	case impl.ItCell, impl.ItName:
		asks = 0
	case impl.ItNot, impl.ItLacks:
		asks = 1
	}
	for range asks {
		if rest, is = withoutLastSum(rest); !is {
			return nil, false
		}
	}
	return rest, true
}

// allLists are all lists of at most n of these.
func allLists[T any](n int, of ...T) [][]T {
	all, last := [][]T{{}}, [][]T{{}}
	for range n {
		next := [][]T{}
		for _, list := range last {
			for _, x := range of {
				next = append(next, append(slices.Clone(list), x))
			}
		}
		all, last = append(all, next...), next
	}
	return all
}

func TestSumOkOfAllShortLists(t *testing.T) {
	short := allLists(7, nameItem("a"), signItem(impl.ItPlus), signItem(impl.ItNot), signItem(impl.ItLacks))
	each := allLists(4, nameItem("a"), numberItem(2), signItem(3), signItem(4), signItem(5), signItem(6), signItem(7), signItem(8), signItem(9), signItem(10), signItem(11), signItem(12))
	for _, l := range slices.Concat(short, each) {
		is := leftOver(l) == 1
		if impl.SumOk(l) != is {
			t.Errorf("SumOk %+v: want %v", l, is)
		}
		if !is {
			wantNoSum(t, l)
		}
	}
}

func TestNoSums(t *testing.T) {
	a, one, plus, not := nameItem("a"), numberItem(1), signItem(impl.ItPlus), signItem(impl.ItNot)
	wantNoSum(t, nil)
	for _, l := range []sum{{}, {a, one}, {a, a, a, plus}, {a, plus, a}, {plus, a, a}, {a, plus}, {plus}, {not}, {not, a}, {a, not, plus}, {a, one, plus, plus}, {a, not, one}, {a, one, not}} {
		wantNoSum(t, l)
	}
	for kind := int64(impl.ItPlus); kind <= impl.ItLacks; kind++ {
		wantNoSum(t, sum{signItem(kind)})
		wantNoSum(t, sum{signItem(kind), a})
		wantNoSum(t, sum{signItem(kind), a, one, plus})
		wantNoSum(t, sum{a, signItem(kind), signItem(impl.ItEither)})
	}
	for i := range pairSigns() {
		wantNoSum(t, sum{a, signItem(pairKind(i))})
		wantNoSum(t, sum{a, one, signItem(pairKind(i)), signItem(pairKind(i))})
	}
	wantNoSum(t, slices.Repeat(sum{a}, impl.MaxItems))
	wantNoSum(t, slices.Repeat(sum{a, not}, impl.MaxItems/2))
	wantNoSum(t, append(slices.Repeat(sum{not}, impl.MaxItems-1), a))
}

func TestOneWrongItemAnywhere(t *testing.T) {
	a, plus, not := nameItem("a"), signItem(impl.ItPlus), signItem(impl.ItNot)
	for _, x := range wrongItems() {
		for _, l := range []sum{{x}, {x, x}, {x, a}, {a, x}, {a, a, x}, {x, not}, {a, x, not}, {x, a, plus}, {a, x, plus}, {a, a, x, not}, {a, x, a, plus}, {a, a, a, x, plus}} {
			wantNoSum(t, l)
		}
	}
	for _, w := range mixedSums()[:400] {
		for i := range w.sum {
			l := slices.Clone(w.sum)
			l[i].Cell.Number = 2000000000
			wantNoSum(t, l)
			if short := slices.Delete(slices.Clone(w.sum), i, i+1); impl.SumOk(short) != (leftOver(short) == 1) {
				t.Errorf("SumOk %+v", short)
			}
		}
	}
}

func TestNamesOfSums(t *testing.T) {
	cases := []struct {
		text string
		want []string
	}{
		{"1", nil}, {"1 + 2", nil}, {"'a'", nil}, {"none = yes", nil}, {"lacks none", nil}, {"a", []string{"a"}}, {"lacks a", []string{"a"}}, {"a + a", []string{"a"}}, {"a * 2 - a", []string{"a"}},
		{"a + b", []string{"a", "b"}}, {"b + a", []string{"a", "b"}}, {"b + a - b * a", []string{"a", "b"}}, {"c or b and not a", []string{"a", "b", "c"}}, {"a = 'b'", []string{"a"}},
		{"b + ab + aa + a + abc + z + abcdef", []string{"a", "aa", "ab", "abc", "abcdef", "b", "z"}}, {"z + y + x + z + x", []string{"x", "y", "z"}}, {"nots and ands or yess", []string{"ands", "nots", "yess"}},
	}
	for _, c := range cases {
		if names := impl.NamesOf(readText(t, c.text)); !slices.Equal(names, c.want) {
			t.Errorf("NamesOf %s: %q; want %q", c.text, names, c.want)
		}
	}
}

// Twenty names are the most that MaxItems has room for.
func TestNamesOfTwentyNames(t *testing.T) {
	l, want := sum{nameItem("x")}, []string{"x"}
	for i := range 19 {
		name := string(rune('w'-i)) + "n"
		l, want = append(l, nameItem(name), signItem(impl.ItEither)), append(want, name)
	}
	slices.Sort(want)
	if names := impl.NamesOf(l); len(names) != 20 || !slices.Equal(names, want) {
		t.Errorf("NamesOf twenty: %q; want %q", names, want)
	}
}

func TestMayFailOfSums(t *testing.T) {
	for _, s := range []string{"a", "1", "none", "'a'", "yes", "lacks a", "lacks 1", "lacks lacks a", "lacks (lacks none)", "((a))"} {
		if impl.MayFail(readText(t, s)) {
			t.Errorf("MayFail %s", s)
		}
	}
	for _, s := range []string{"a + b", "1 - 1", "2 * 2", "2 / 1", "a = a", "1 < 2", "yes and no", "yes or no", "not yes", "not lacks a", "lacks (a + b)", "lacks a and lacks b", "lacks (not a)"} {
		if !impl.MayFail(readText(t, s)) {
			t.Errorf("not MayFail %s", s)
		}
	}
}

func readText(t *testing.T, s string) sum {
	t.Helper()
	list, is := impl.TokensOf(s)
	l, read := impl.ReadSum(list)
	if !is || !read {
		t.Errorf("%s is not read", s)
	}
	return l
}

func wantReadSum(t *testing.T, list tokens, want sum, is bool) {
	t.Helper()
	if got, right := impl.ReadSum(list); !slices.Equal(got, want) || right != is {
		t.Errorf("ReadSum %s: %+v %v; want %+v %v", impl.TextOf(list), got, right, want, is)
	}
}

// wantSame: what a text is read as is what a text with all its parentheses
// tells.
func wantSame(t *testing.T, s string, want string) {
	t.Helper()
	if got := impl.ShowSum(readText(t, s)); got != want {
		t.Errorf("%s is read as %s; want %s", s, got, want)
	}
}

func TestReadSumWhatBindsMoreComesFirst(t *testing.T) {
	for _, c := range [][2]string{
		{"a + b * c - 2", "((a + (b * c)) - 2)"}, {"a * b + c", "((a * b) + c)"}, {"a + b * c", "(a + (b * c))"}, {"a - b / c", "(a - (b / c))"}, {"a / b - c", "((a / b) - c)"}, {"(a + b) * c", "((a + b) * c)"},
		{"a = b + c", "(a = (b + c))"}, {"a + b = c", "((a + b) = c)"}, {"a < b * c", "(a < (b * c))"}, {"a * b < c - d", "((a * b) < (c - d))"}, {"a + (b = c)", "(a + (b = c))"},
		{"a and b = c", "(a and (b = c))"}, {"a = b and c", "((a = b) and c)"}, {"a or b and c", "(a or (b and c))"}, {"a and b or c", "((a and b) or c)"}, {"(a or b) and c", "((a or b) and c)"}, {"a or b = c", "(a or (b = c))"},
		{"a = b or c < d and e = f", "((a = b) or ((c < d) and (e = f)))"}, {"a + b and c * d", "((a + b) and (c * d))"},
		{"not a and b", "((not a) and b)"}, {"not a or b", "((not a) or b)"}, {"a and not b", "(a and (not b))"}, {"a or not b and c", "(a or ((not b) and c))"}, {"not a = b", "(not (a = b))"}, {"not a < b + c", "(not (a < (b + c)))"},
		{"not a + b", "(not (a + b))"}, {"not a * b", "(not (a * b))"}, {"not (a and b)", "(not (a and b))"}, {"(not a) = b", "((not a) = b)"}, {"not a = b and not c < d", "((not (a = b)) and (not (c < d)))"},
		{"lacks a + b", "((lacks a) + b)"}, {"lacks a * b", "((lacks a) * b)"}, {"lacks a = b", "((lacks a) = b)"}, {"lacks a and b", "((lacks a) and b)"}, {"lacks a or b", "((lacks a) or b)"}, {"a + lacks b", "(a + (lacks b))"},
		{"a = lacks b", "(a = (lacks b))"}, {"a and lacks b", "(a and (lacks b))"}, {"not lacks a", "(not (lacks a))"}, {"not lacks a and b < 2 or yes", "(((not (lacks a)) and (b < 2)) or yes)"},
		{"a or b and not c = d + e * lacks f", "(a or (b and (not (c = (d + (e * (lacks f)))))))"}, {"lacks a * b + c = d and e or f", "((((((lacks a) * b) + c) = d) and e) or f)"},
	} {
		wantSame(t, c[0], c[1])
		wantSame(t, c[1], c[1])
		wantSame(t, "("+c[0]+")", c[1])
	}
}

func TestReadSumTheFirstOnesFirst(t *testing.T) {
	for _, c := range [][2]string{
		{"a + b + c", "((a + b) + c)"}, {"a - b - c", "((a - b) - c)"}, {"a + b - c", "((a + b) - c)"}, {"a - b + c", "((a - b) + c)"}, {"a - (b - c)", "(a - (b - c))"},
		{"a * b * c", "((a * b) * c)"}, {"a / b / c", "((a / b) / c)"}, {"a * b / c", "((a * b) / c)"}, {"a / b * c", "((a / b) * c)"}, {"a / (b * c)", "(a / (b * c))"},
		{"a and b and c", "((a and b) and c)"}, {"a or b or c", "((a or b) or c)"}, {"a and (b and c)", "(a and (b and c))"}, {"a or (b or c)", "(a or (b or c))"},
		{"a - b - c - d - e", "((((a - b) - c) - d) - e)"}, {"a - b * c - d", "((a - (b * c)) - d)"}, {"a * b - c * d - e", "(((a * b) - (c * d)) - e)"}, {"a or b and c or d", "((a or (b and c)) or d)"},
		{"a and b or c and d or e", "(((a and b) or (c and d)) or e)"}, {"1 - -1 - 1", "((1 - -1) - 1)"}, {"a - 3", "(a - 3)"},
	} {
		wantSame(t, c[0], c[1])
		wantSame(t, c[1], c[1])
	}
}

func TestReadSumOfSignsOfOne(t *testing.T) {
	for _, c := range [][2]string{
		{"not not a", "(not (not a))"}, {"not not not a", "(not (not (not a)))"}, {"lacks lacks a", "(lacks (lacks a))"}, {"not not a and b", "((not (not a)) and b)"}, {"lacks lacks a + b", "((lacks (lacks a)) + b)"},
		{"a = (not b)", "(a = (not b))"}, {"a + (not b)", "(a + (not b))"}, {"a * (not b)", "(a * (not b))"}, {"a * lacks b", "(a * (lacks b))"}, {"a / lacks b", "(a / (lacks b))"}, {"a * lacks b * c", "((a * (lacks b)) * c)"},
		{"lacks (a + b)", "(lacks (a + b))"}, {"lacks (not a)", "(lacks (not a))"}, {"lacks (a)", "(lacks a)"}, {"not (a)", "(not a)"}, {"not lacks lacks a", "(not (lacks (lacks a)))"}, {"not not lacks a", "(not (not (lacks a)))"},
		{"(not a) + b", "((not a) + b)"}, {"a = lacks lacks b", "(a = (lacks (lacks b)))"}, {"a and not not b", "(a and (not (not b)))"}, {"not (not a)", "(not (not a))"},
	} {
		wantSame(t, c[0], c[1])
	}
	wantNotRead(t, "a = not b", "a < not b", "a + not b", "a - not b", "a * not b", "a / not b", "lacks not a", "not lacks not a", "a = b + not c", "a and b = not c", "not a = not b", "a + lacks not b", "(a = not b)", "lacks lacks not a")
}

func TestReadSumOfSameAndBelowBesideOneAnother(t *testing.T) {
	wantNotRead(t, "a = b = c", "a = b < c", "a < b = c", "a < b < c", "a + b = c = d", "a = b + c = d", "a = b * c < d", "a = b = c = d", "(a = b = c)", "a and b = c = d", "not a = b = c", "a = lacks b = c", "a = (b) = c", "(a = b) = c = d", "a = (b = c) = d")
	for _, c := range [][2]string{
		{"(a = b) = c", "((a = b) = c)"}, {"a = (b = c)", "(a = (b = c))"}, {"(a < b) = c", "((a < b) = c)"}, {"a < (b < c)", "(a < (b < c))"}, {"a = (b < c)", "(a = (b < c))"}, {"(a = b) < (c = d)", "((a = b) < (c = d))"},
		{"a = b and c = d", "((a = b) and (c = d))"}, {"a = b or c < d", "((a = b) or (c < d))"}, {"a < b and not c = d", "((a < b) and (not (c = d)))"}, {"((a = b)) = c", "((a = b) = c)"}, {"(a = b) + c = d", "(((a = b) + c) = d)"},
		{"a = b + (c = d)", "(a = (b + (c = d)))"}, {"(not a = b) = c", "((not (a = b)) = c)"},
	} {
		wantSame(t, c[0], c[1])
	}
}

func wantNotRead(t *testing.T, texts ...string) {
	t.Helper()
	for _, s := range texts {
		list, is := impl.TokensOf(s)
		if !is {
			t.Errorf("%s has no tokens", s)
		}
		wantReadSum(t, list, nil, false)
	}
}

func TestReadSumOfOneAlone(t *testing.T) {
	for _, w := range aloneSums() {
		list, _ := impl.TokensOf(w.text)
		for range 60 {
			wantReadSum(t, list, w.sum, true)
			list = slices.Concat(tokens{signToken("(")}, list, tokens{signToken(")")})
		}
	}
}

// However deep: no list of tokens is too long.
func TestReadSumOfManyParentheses(t *testing.T) {
	const depth = 100000
	open, close, a := slices.Repeat(tokens{signToken("(")}, depth), slices.Repeat(tokens{signToken(")")}, depth), tokens{nameToken("a")}
	for _, c := range []struct {
		list tokens
		want sum
	}{
		{slices.Concat(open, a, close), sum{nameItem("a")}}, {slices.Concat(tokens{signToken("not")}, open, a, close), sum{nameItem("a"), signItem(impl.ItNot)}},
		{slices.Concat(a, tokens{signToken("*")}, open, a, tokens{signToken("+")}, a, close), sum{nameItem("a"), nameItem("a"), nameItem("a"), signItem(impl.ItPlus), signItem(impl.ItTimes)}},
		{slices.Concat(open, a, close[1:]), nil}, {slices.Concat(open[1:], a, close), nil}, {open, nil}, {close, nil}, {slices.Concat(open, close), nil}, {slices.Concat(close, a, open), nil},
		{slices.Repeat(tokens{signToken("not")}, depth), nil}, {append(slices.Repeat(tokens{signToken("not")}, depth), a...), nil}, {append(slices.Repeat(tokens{signToken("lacks")}, depth), a...), nil},
		{slices.Repeat(tokens{nameToken("a"), signToken("+")}, depth), nil}, {append(slices.Repeat(tokens{nameToken("a"), signToken("or")}, depth), a...), nil}, {slices.Repeat(tokens{nameToken("a"), signToken("and"), signToken("(")}, depth), nil},
	} {
		if l, is := impl.ReadSum(c.list); !slices.Equal(l, c.want) || is != (c.want != nil) {
			t.Errorf("ReadSum of %d tokens: %+v %v; want %+v", len(c.list), l, is, c.want)
		}
	}
}

func TestReadSumOfMaxItemsAndOfOneMore(t *testing.T) {
	for _, w := range longSums(impl.MaxItems) {
		list, _ := impl.TokensOf(w.text)
		wantReadSum(t, list, w.sum, true)
	}
	for _, size := range []int{impl.MaxItems + 1, impl.MaxItems + 2, 3 * impl.MaxItems} {
		for _, w := range longSums(size) {
			list, is := impl.TokensOf(w.text)
			if !is {
				t.Fatalf("%d bytes", len(w.text))
			}
			wantReadSum(t, list, nil, false)
		}
	}
	for _, sign := range []string{"+", "-", "*", "/", "and", "or"} {
		pairs := strings.Repeat(" "+sign+" a", 19)
		if l := readText(t, "a"+pairs); len(l) != 39 {
			t.Errorf("%d Items", len(l))
		}
		if l := readText(t, "lacks a"+pairs); len(l) != 40 {
			t.Errorf("%d Items", len(l))
		}
		wantNotRead(t, "a"+pairs+" "+sign+" a", "lacks lacks a"+pairs, "a"+pairs+" "+sign+" lacks a", "(a"+pairs+") "+sign+" (a)")
	}
	for _, sign := range signWords()[2:] {
		if l := readText(t, strings.Repeat(sign+" ", 39)+"a"); len(l) != 40 {
			t.Errorf("%d Items", len(l))
		}
		wantNotRead(t, strings.Repeat(sign+" ", 40)+"a", strings.Repeat(sign+" (", 40)+"a"+strings.Repeat(")", 40))
	}
}

func TestReadSumOfNoSum(t *testing.T) {
	wantReadSum(t, nil, nil, false)
	wantReadSum(t, tokens{}, nil, false)
	wantNotRead(t,
		"(", ")", "()", ")(", "(a", "a)", "((a)", "(a))", ")a(", "(a))(", "a)(", "(a) (b)", "()a", "a()", "(()a)", "a + ()", "() + a", "not ()", "lacks ()", "(())", "(a + b", "a + b)", "(a +) b", "a (+ b)", "((a) + b", "(a = b", "not (a",
		"a b", "a 1", "1 2", "1 a", "a-3", "5-3", "05", "1000000001", "'a' 'b'", "none none", "a b + c", "a + b c", "a (b)", "(a) b", "a + b (c)", "a not b", "a lacks b", "a not", "a lacks", "1 not and 2", "a lacks + b", "(a) not", "(a) not b",
		"+", "-", "*", "/", "=", "<", "and", "or", "not", "lacks", "a +", "a -", "a *", "a /", "a =", "a <", "a and", "a or", "a + b *", "+ a", "- a", "* a", "/ a", "= a", "< a", "and a", "or a", "(+ a)", "(a +)", "not and a", "not + a", "lacks = a", "lacks * a",
		"a + + b", "a + - b", "a - - b", "a * / b", "a = = b", "a < = b", "a and and b", "a and or b", "a or or b", "a + and b", "a and + b", "not not", "lacks lacks", "not lacks", "a and not", "a + lacks", "not (not)", "a + not", "not a not", "- (a)", "-a", "--5", "not - 5",
	)
}

func TestReadSumOfWrongTokens(t *testing.T) {
	a, plus, open, close := nameToken("a"), signToken("+"), signToken("("), signToken(")")
	for _, x := range wrongTokens() {
		for _, list := range []tokens{{x}, {x, a}, {a, x}, {a, x, a}, {a, plus, x}, {x, plus, a}, {open, x, close}, {open, a, x}, {x, a, close}, {signToken("not"), x}, {a, x, x}, {a, plus, a, x}, {x, a, plus, a}} {
			if l, is := impl.ReadSum(list); is || len(l) != 0 {
				t.Errorf("ReadSum %+v: %+v %v", list, l, is)
			}
		}
	}
}

// The grammar once more, by cutting: a list of tokens is cut at the last sign
// that binds least and stands in no parentheses.
func cutAt(list tokens, signs ...string) (int, int) {
	depth, last, count := 0, -1, 0
	for i, x := range list {
		switch {
		case x == signToken("("):
			depth++
		case x == signToken(")"):
			depth--
		case depth == 0 && x.Kind == impl.TkSign && slices.Contains(signs, x.Text):
			last, count = i, count+1
		}
	}
	return last, count
}

// binaryCut reads what is ahead of the cut by one way, and what is behind it
// by the other one.
func binaryCut(list tokens, at int, ahead func(tokens) (sum, bool), behind func(tokens) (sum, bool)) (sum, bool) {
	one, is := ahead(list[:at])
	other, isToo := behind(list[at+1:])
	kind := pairKind(slices.Index(pairSigns(), list[at].Text))
	return slices.Concat(one, other, sum{signItem(kind)}), is && isToo
}

func cutOr(list tokens) (sum, bool) {
	if at, _ := cutAt(list, "or"); at >= 0 {
		return binaryCut(list, at, cutOr, cutAnd)
	}
	return cutAnd(list)
}

func cutAnd(list tokens) (sum, bool) {
	if at, _ := cutAt(list, "and"); at >= 0 {
		return binaryCut(list, at, cutAnd, cutNot)
	}
	return cutNot(list)
}

func cutNot(list tokens) (sum, bool) {
	if len(list) > 0 && list[0] == signToken("not") {
		one, is := cutNot(list[1:])
		return append(one, signItem(impl.ItNot)), is
	}
	return cutRank(list)
}

func cutRank(list tokens) (sum, bool) {
	switch at, count := cutAt(list, "=", "<"); count {
	case 0:
		return cutPlus(list)
	case 1:
		return binaryCut(list, at, cutPlus, cutPlus)
	}
	return nil, false
}

func cutPlus(list tokens) (sum, bool) {
	if at, _ := cutAt(list, "+", "-"); at >= 0 {
		return binaryCut(list, at, cutPlus, cutTimes)
	}
	return cutTimes(list)
}

func cutTimes(list tokens) (sum, bool) {
	if at, _ := cutAt(list, "*", "/"); at >= 0 {
		return binaryCut(list, at, cutTimes, cutLacks)
	}
	return cutLacks(list)
}

func cutLacks(list tokens) (sum, bool) {
	if len(list) > 0 && list[0] == signToken("lacks") {
		one, is := cutLacks(list[1:])
		return append(one, signItem(impl.ItLacks)), is
	}
	return cutAlone(list)
}

func cutAlone(list tokens) (sum, bool) {
	last := len(list) - 1
	switch {
	case last > 1 && list[0] == signToken("(") && list[last] == signToken(")"):
		return cutOr(list[1:last])
	case last != 0 || list[0].Kind == impl.TkSign:
		return nil, false
	case list[0].Kind == impl.TkName:
		return sum{nameItem(list[0].Text)}, true
	}
	return sum{cellItem(list[0].Cell)}, true
}

func closedEverywhere(list tokens) bool {
	depth := 0
	for _, x := range list {
		switch x {
		case signToken("("):
			depth++
		case signToken(")"):
			depth--
		}
		if depth < 0 {
			return false
		}
	}
	return depth == 0
}

func wantByCuts(t *testing.T, list tokens) bool {
	t.Helper()
	want, is := sum(nil), false
	if closedEverywhere(list) {
		want, is = cutOr(list)
	}
	if !is || len(want) > impl.MaxItems {
		want, is = nil, false
	}
	wantReadSum(t, list, want, is)
	return is
}

func allSigns(texts ...string) tokens {
	list := tokens{nameToken("a")}
	for _, s := range texts {
		list = append(list, signToken(s))
	}
	return list
}

func TestReadSumOfAllShortLists(t *testing.T) {
	read := 0
	for _, of := range []struct {
		n     int
		signs tokens
	}{
		{4, allSigns("+", "-", "*", "/", "=", "<", "and", "or", "not", "lacks", "(", ")")},
		{5, append(allSigns("+", "*", "=", "and", "or", "not", "lacks", "(", ")"), numberToken(1))},
		{7, allSigns("+", "=", "not", "(", ")")}, {7, allSigns("*", "lacks", "not", "(", ")")}, {7, allSigns("+", "*", "=", "<", "not")}, {7, allSigns("or", "and", "not", "=", "lacks")},
	} {
		for _, list := range allLists(of.n, of.signs...) {
			if wantByCuts(t, list) {
				read++
			}
		}
	}
	if read < 1000 {
		t.Errorf("only %d of them are sums", read)
	}
}

// mixedTokens is a list that often is a sum: one, and behind it signs and
// ones, in parentheses here and there.
func mixedTokens(d *dice, count int) tokens {
	list, alone, open := tokens{}, aloneTokens(), 0
	for n := range count {
		if n > 0 {
			list = append(list, signToken(pairSigns()[[]int{0, 1, 2, 3, 6, 7, 6, 7, 4, 5}[d.below(10)]]))
		}
		if d.below(6) == 0 {
			list = append(list, signToken("lacks"))
		} else if n == 0 || list[len(list)-1].Text == "and" || list[len(list)-1].Text == "or" {
			list = append(list, slices.Repeat(tokens{signToken("not")}, d.below(3))...)
		}
		if d.below(5) == 0 {
			list, open = append(list, signToken("(")), open+1
		}
		list = append(list, alone[d.below(len(alone))])
		if open > 0 && d.below(3) == 0 {
			list, open = append(list, signToken(")")), open-1
		}
	}
	return append(list, slices.Repeat(tokens{signToken(")")}, open)...)
}

func aloneTokens() tokens {
	list := tokens{}
	for _, w := range writtenTokens() {
		if w.token.Kind != impl.TkSign {
			list = append(list, w.token)
		}
	}
	return list
}

func TestReadSumOfMixedTokens(t *testing.T) {
	d, read := &dice{}, 0
	for n := range 20000 {
		list := mixedTokens(d, 1+n%22)
		if wantByCuts(t, list) {
			read++
		}
		at := d.below(len(list))
		wantByCuts(t, slices.Delete(slices.Clone(list), at, at+1))
		wantByCuts(t, slices.Insert(slices.Clone(list), at, signToken(append(signBytes(), signWords()...)[d.below(12)])))
	}
	if read < 2000 {
		t.Errorf("only %d of them are sums", read)
	}
}

// wantPromise8: ReadSum of ShowSum is the sum.
func wantPromise8(t *testing.T, l sum) {
	t.Helper()
	list, is := impl.TokensOf(impl.ShowSum(l))
	if !is {
		t.Errorf("TokensOf %q: false", impl.ShowSum(l))
	}
	wantReadSum(t, list, l, true)
}

func TestPromise8ReadSumOfShowSum(t *testing.T) {
	small := smallSums(6, aloneSum(nameItem("a"), "a"), aloneSum(numberItem(-5), "-5"))
	for _, w := range slices.Concat(someSums(), aloneSums(), small, mixedSums(), longSums(impl.MaxItems), longSums(impl.MaxItems-1)) {
		wantPromise8(t, w.sum)
	}
}

func TestPromise8OfEachTwoUnderEachSign(t *testing.T) {
	for _, one := range aloneSums() {
		for _, sign := range signWords()[2:] {
			wantPromise8(t, aheadSum(sign, one).sum)
		}
		for _, other := range aloneSums() {
			for _, sign := range pairSigns() {
				w := pairSum(one, sign, other)
				wantSum(t, w)
				wantPromise8(t, w.sum)
			}
		}
	}
}

// The longest text that a sum has is still short enough to be read.
func TestPromise8OfTheLongestTexts(t *testing.T) {
	longest := aloneSum(cellItem(text("abcdefghijkl")), "'abcdefghijkl'")
	left, right := aheadSum("lacks", longest), aheadSum("lacks", longest)
	for len(left.sum) < impl.MaxItems {
		left, right = pairSum(left, "and", longest), pairSum(longest, "and", right)
	}
	for _, w := range []writtenSum{left, right} {
		wantSum(t, w)
		wantPromise8(t, w.sum)
	}
}

// What was read is a sum, and reads as the same when it is shown.
func TestReadSumIsASum(t *testing.T) {
	d := &dice{7}
	for n := range 3000 {
		if l, is := impl.ReadSum(mixedTokens(d, 1+n%15)); is {
			if !impl.SumOk(l) {
				t.Errorf("%+v is read and is no sum", l)
			}
			wantPromise8(t, l)
		}
	}
}

// roomySum is the same list, with spare room behind it.
func roomySum(l sum) sum {
	spare := impl.Item{Kind: 77, Name: "spare", Cell: impl.Cell{Kind: 77, Number: 7, Text: "room"}}
	return append(slices.Clone(l), spare, spare)[:len(l)]
}

func TestSumsLeaveTheirArguments(t *testing.T) {
	lists := []sum{nil, {}, wrongItems(), {signItem(impl.ItPlus)}, {nameItem("b"), nameItem("a")}, {nameItem("b"), nameItem("a"), nameItem("b"), signItem(impl.ItPlus), signItem(impl.ItLess)}}
	for _, w := range slices.Concat(someSums(), longSums(impl.MaxItems), longSums(impl.MaxItems+1)) {
		lists = append(lists, w.sum)
	}
	for _, l := range lists {
		given := roomySum(l)
		before := slices.Clone(given[:cap(given)])
		ok, shown, names, fails := impl.SumOk(given), impl.ShowSum(given), impl.NamesOf(given), impl.MayFail(given)
		if !slices.Equal(before, given[:cap(given)]) {
			t.Errorf("one of the four writes into %+v", before)
		}
		again := impl.NamesOf(given)
		wantApart(t, fmt.Sprintf("NamesOf %+v", before), []span{spanOf("one", names), spanOf("other", again)}, []span{spanOf("given", given)})
		wantShown, wantNames := strings.Clone(shown), slices.Clone(names)
		for i := range given[:cap(given)] {
			given[:cap(given)][i] = impl.Item{Kind: 99, Name: "scrib"}
		}
		if shown != wantShown || !slices.Equal(names, wantNames) {
			t.Errorf("an answer of %+v shares memory with its argument", before)
		}
		for i := range names[:cap(names)] {
			names[:cap(names)][i] = "scrib"
		}
		if !slices.Equal(again, wantNames) || impl.SumOk(l) != ok || impl.ShowSum(l) != shown || !slices.Equal(impl.NamesOf(l), wantNames) || impl.MayFail(l) != fails {
			t.Errorf("%+v is answered otherwise behind a write into an answer", before)
		}
	}
}

func TestReadSumIsNewMemory(t *testing.T) {
	lists, d := []tokens{nil, {}, {nameToken("a")}, {signToken("(")}, {signToken(")")}, {nameToken("a"), nameToken("b")}, {nameToken("a"), signToken("+")}, wrongTokens()}, &dice{3}
	for _, w := range slices.Concat(someSums(), longSums(impl.MaxItems), longSums(impl.MaxItems+1)) {
		list, _ := impl.TokensOf(w.text)
		lists = append(lists, list)
	}
	for n := range 300 {
		lists = append(lists, mixedTokens(d, 1+n%22))
	}
	for _, list := range lists {
		given := roomyTokens(list)
		before := slices.Clone(given[:cap(given)])
		first, is := impl.ReadSum(given)
		second, _ := impl.ReadSum(given)
		want := slices.Clone(second)
		if !slices.Equal(before, given[:cap(given)]) {
			t.Errorf("ReadSum writes into %+v", before)
		}
		wantApart(t, "ReadSum "+impl.TextOf(list), []span{spanOf("one", first), spanOf("other", second)}, []span{spanOf("given", given)})
		for i := range given[:cap(given)] {
			given[:cap(given)][i] = impl.Token{Kind: 99, Text: "scrib"}
		}
		for i := range first[:cap(first)] {
			first[:cap(first)][i] = impl.Item{Kind: 99, Name: "scrib"}
		}
		if !slices.Equal(second, want) {
			t.Errorf("answers of ReadSum %s share memory", impl.TextOf(list))
		}
		wantReadSum(t, list, want, is)
	}
}
