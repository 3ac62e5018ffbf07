package tests

import (
	"fmt"
	"maps"
	"math"
	"regexp"
	"slices"
	"strconv"
	"strings"
	"testing"

	"loop.example/g00536/impl"
)

type ask = []impl.Sieve

// A writtenSieve is a Sieve with what ShowAsk is to make of it.
type writtenSieve struct {
	sieve impl.Sieve
	text  string
}

func fromSieve(table string) writtenSieve {
	return writtenSieve{impl.Sieve{Kind: impl.SvFrom, Name: table}, "from " + table}
}

func whereSieve(w writtenSum) writtenSieve {
	return writtenSieve{impl.Sieve{Kind: impl.SvWhere, Sum: w.sum}, "where " + w.text}
}

func letSieve(name string, w writtenSum) writtenSieve {
	return writtenSieve{impl.Sieve{Kind: impl.SvLet, Name: name, Sum: w.sum}, "let " + name + " = " + w.text}
}

func keepSieve(names ...string) writtenSieve {
	return writtenSieve{impl.Sieve{Kind: impl.SvKeep, Names: names}, "keep " + strings.Join(names, " ")}
}

func joinSieve(table string, w writtenSum) writtenSieve {
	return writtenSieve{impl.Sieve{Kind: impl.SvJoin, Name: table, Sum: w.sum}, "join " + table + " on " + w.text}
}

func leftSieve(table string, w writtenSum) writtenSieve {
	return writtenSieve{impl.Sieve{Kind: impl.SvLeft, Name: table, Sum: w.sum}, "left " + table + " on " + w.text}
}

func groupSieve(names ...string) writtenSieve {
	return writtenSieve{impl.Sieve{Kind: impl.SvGroup, Names: names}, strings.Join(append([]string{"group"}, names...), " ")}
}

func orderSieve(name string, down bool) writtenSieve {
	text := "order " + name
	if down {
		text += " down"
	}
	return writtenSieve{impl.Sieve{Kind: impl.SvOrder, Name: name, Down: down}, text}
}

func limitSieve(count int64, skip int64) writtenSieve {
	return writtenSieve{impl.Sieve{Kind: impl.SvLimit, Count: count, Skip: skip}, fmt.Sprintf("limit %d %d", count, skip)}
}

func onceSieve() writtenSieve {
	return writtenSieve{impl.Sieve{Kind: impl.SvOnce}, "once"}
}

func nameSum(s string) writtenSum { return aloneSum(nameItem(s), s) }

// lowSum is a sum that is written by hand: (a < 5).
func lowSum() writtenSum {
	return writtenSum{sum{nameItem("a"), numberItem(5), signItem(impl.ItBelow)}, "(a < 5)"}
}

// eachSieve has one right Sieve of each Kind but SvFrom.
func eachSieve() []writtenSieve {
	return []writtenSieve{
		whereSieve(lowSum()), letSieve("x", lowSum()), keepSieve("x", "a"), joinSieve("u", lowSum()), leftSieve("u", lowSum()),
		groupSieve("a"), orderSieve("a", true), limitSieve(5, 2), onceSieve(),
	}
}

// askWords are the words of the texts that are names as well.
func askWords() []string {
	return []string{"from", "where", "let", "keep", "join", "left", "on", "group", "order", "down", "limit", "once", "count"}
}

// barredWords are the words that no name is.
func barredWords() []string { return slices.Concat(signWords(), cellWords()) }

// rightNames are names at their edges.
func rightNames() []string {
	return slices.Concat(askWords(), nearNames(), []string{"a", "z", "az", "abcdef", "zzzzzz"})
}

// edgeSieves has the edges that are right, of each Kind but SvFrom.
func edgeSieves() []writtenSieve {
	list := []writtenSieve{groupSieve(), groupSieve("on", "down", "by", "group"), keepSieve("on", "down", "from", "keep", "a", "once")}
	for _, name := range rightNames() {
		list = append(list, letSieve(name, lowSum()), keepSieve(name), groupSieve(name), keepSieve("q", name, "qq"), groupSieve("q", name), orderSieve(name, false), orderSieve(name, true))
		list = append(list, joinSieve(name, lowSum()), leftSieve(name, lowSum()), whereSieve(nameSum(name)), letSieve("on", nameSum(name)), joinSieve("on", nameSum(name)), leftSieve("u", nameSum(name)), letSieve(name, nameSum(name)), joinSieve(name, nameSum(name)))
	}
	for count := 1; count <= 6; count++ {
		list = append(list, keepSieve(letters(count)...))
	}
	for count := 1; count <= 4; count++ {
		list = append(list, groupSieve(letters(count)...))
	}
	for _, n := range []int64{0, 1, 9, 10, 99, 100, 500, 999, 1000} {
		list = append(list, limitSieve(n, 0), limitSieve(0, n), limitSieve(n, n), limitSieve(n, 1000), limitSieve(1000, n))
	}
	for _, w := range slices.Concat(someSums(), aloneSums(), longSums(impl.MaxItems)) {
		list = append(list, whereSieve(w), letSieve("x", w), joinSieve("u", w), leftSieve("u", w))
	}
	return list
}

// fieldsSet has functions that set one field each.
func fieldsSet() map[string]func(*impl.Sieve) {
	return map[string]func(*impl.Sieve){
		"a Name":        func(s *impl.Sieve) { s.Name = "a" },
		"a wrong Name":  func(s *impl.Sieve) { s.Name = " " },
		"one of Names":  func(s *impl.Sieve) { s.Names = []string{"a"} },
		"an empty Name": func(s *impl.Sieve) { s.Names = []string{""} },
		"a Sum":         func(s *impl.Sieve) { s.Sum = sum{nameItem("a")} },
		"an Item":       func(s *impl.Sieve) { s.Sum = sum{{}} },
		"Down":          func(s *impl.Sieve) { s.Down = true },
		"Count":         func(s *impl.Sieve) { s.Count = 1 },
		"a Count below": func(s *impl.Sieve) { s.Count = -1 },
		"Skip":          func(s *impl.Sieve) { s.Skip = 1 },
		"a Skip below":  func(s *impl.Sieve) { s.Skip = -1 },
	}
}

// toldFields are the fields that a Kind tells, as fieldsSet calls them.
func toldFields(kind int64) []string {
	return [][]string{
		impl.SvFrom: {"a Name", "a wrong Name"}, impl.SvWhere: {"a Sum", "an Item"}, impl.SvLet: {"a Name", "a wrong Name", "a Sum", "an Item"}, impl.SvKeep: {"one of Names", "an empty Name"},
		impl.SvJoin: {"a Name", "a wrong Name", "a Sum", "an Item"}, impl.SvLeft: {"a Name", "a wrong Name", "a Sum", "an Item"}, impl.SvGroup: {"one of Names", "an empty Name"},
		impl.SvOrder: {"a Name", "a wrong Name", "Down"}, impl.SvLimit: {"Count", "a Count below", "Skip", "a Skip below"}, impl.SvOnce: {},
	}[kind]
}

// strayFields are right Sieves with one field more.
func strayFields() []impl.Sieve {
	list := []impl.Sieve{}
	for _, w := range append(eachSieve(), fromSieve("t"), groupSieve(), orderSieve("a", false), limitSieve(0, 0)) {
		for what, set := range fieldsSet() {
			if !slices.Contains(toldFields(w.sieve.Kind), what) {
				s := w.sieve
				set(&s)
				list = append(list, s)
			}
		}
	}
	return list
}

// wrongKinds are what no Kind is, with nothing and with what a Kind would tell.
func wrongKinds() []impl.Sieve {
	list := []impl.Sieve{}
	for _, kind := range []int64{0, -1, 11, 12, -10, 256, 257, 1 << 32, math.MaxInt64, math.MinInt64} {
		list = append(list, impl.Sieve{Kind: kind})
		for _, w := range append(eachSieve(), fromSieve("t")) {
			s := w.sieve
			s.Kind = kind
			list = append(list, s)
			s.Kind = w.sieve.Kind + 1<<32
			list = append(list, s)
			s.Kind = -w.sieve.Kind
			list = append(list, s)
		}
	}
	return list
}

// namedWrongly has each place of a name filled by what is no name.
func namedWrongly() []impl.Sieve {
	list := []impl.Sieve{}
	for _, name := range slices.Concat(wrongNames(), barredWords(), signBytes(), []string{"|", "a|b", "grouped", "orderby"}) {
		list = append(list, fromSieve(name).sieve, letSieve(name, lowSum()).sieve, joinSieve(name, lowSum()).sieve, leftSieve(name, lowSum()).sieve, orderSieve(name, false).sieve, orderSieve(name, true).sieve)
		for at := range 4 {
			names := letters(4)
			names[at] = name
			list = append(list, keepSieve(names...).sieve, groupSieve(names...).sieve, keepSieve(names[:at+1]...).sieve, groupSieve(names[:at+1]...).sieve)
		}
		six := letters(6)
		six[5] = name
		list = append(list, keepSieve(six...).sieve)
	}
	return list
}

// wrongSieves has what is wrong in one place alone.
func wrongSieves() []impl.Sieve {
	list := slices.Concat(strayFields(), wrongKinds(), namedWrongly(), ask{keepSieve().sieve, {Kind: impl.SvKeep, Names: []string{}}})
	for _, count := range []int{7, 8, 26} {
		list = append(list, keepSieve(letters(count)...).sieve)
	}
	for _, count := range []int{5, 6, 7, 26} {
		list = append(list, groupSieve(letters(count)...).sieve)
	}
	for _, names := range [][]string{{"a", "a"}, {"a", "b", "a"}, {"b", "a", "a"}, {"a", "a", "b"}, {"abcdef", "b", "c", "abcdef"}, {"a", "a", "a", "a"}} {
		list = append(list, keepSieve(names...).sieve, groupSieve(names...).sieve)
	}
	list = append(list, keepSieve("a", "b", "c", "d", "e", "a").sieve)
	for _, n := range []int64{-1, 1001, -1000, 1002, 2000, math.MaxInt64, math.MinInt64, 1 << 32, 1<<32 + 5, 256 * 1000000} {
		list = append(list, limitSieve(n, 0).sieve, limitSieve(0, n).sieve, limitSieve(5, n).sieve, limitSieve(n, 5).sieve, limitSieve(n, n).sieve)
	}
	return append(list, wrongSums()...)
}

// wrongSums are Sieves whose Sum is none.
func wrongSums() []impl.Sieve {
	list := []impl.Sieve{}
	a, plus := nameItem("a"), signItem(impl.ItPlus)
	sums := []sum{nil, {}, {a, a}, {plus}, {a, plus}, {a, a, a, plus}, {plus, a, a}, {signItem(impl.ItNot), a}, slices.Repeat(sum{a}, impl.MaxItems)}
	for _, w := range longSums(impl.MaxItems + 1) {
		sums = append(sums, w.sum)
	}
	for _, x := range wrongItems() {
		sums = append(sums, sum{x}, sum{a, x, plus})
	}
	for _, l := range sums {
		w := writtenSum{sum: l}
		list = append(list, whereSieve(w).sieve, letSieve("x", w).sieve, joinSieve("u", w).sieve, leftSieve("u", w).sieve)
	}
	return list
}

func TestSieveKinds(t *testing.T) {
	kinds := []int64{impl.SvFrom, impl.SvWhere, impl.SvLet, impl.SvKeep, impl.SvJoin, impl.SvLeft, impl.SvGroup, impl.SvOrder, impl.SvLimit, impl.SvOnce}
	for i, kind := range kinds {
		if kind != int64(i+1) {
			t.Errorf("the kind %d is %d", i+1, kind)
		}
	}
	if impl.MaxSieves != 8 {
		t.Errorf("MaxSieves is %d", impl.MaxSieves)
	}
}

func TestSieveOkOfEachKindAndOfEdges(t *testing.T) {
	for _, w := range slices.Concat(eachSieve(), edgeSieves()) {
		if !impl.SieveOk(w.sieve) {
			t.Errorf("%+v is a right sieve", w.sieve)
		}
	}
	for _, name := range rightNames() {
		if !impl.SieveOk(fromSieve(name).sieve) {
			t.Errorf("from %s is a right sieve", name)
		}
	}
}

// Lists that are empty and lists that are nil are one.
func TestSieveOkOfEmptyLists(t *testing.T) {
	for _, w := range append(eachSieve(), fromSieve("t"), groupSieve()) {
		s := w.sieve
		if len(s.Names) == 0 {
			s.Names = []string{}
		}
		if len(s.Sum) == 0 {
			s.Sum = sum{}
		}
		if !impl.SieveOk(s) {
			t.Errorf("%+v is a right sieve", s)
		}
	}
}

func TestSieveOkOfWrongSieves(t *testing.T) {
	for _, s := range wrongSieves() {
		if impl.SieveOk(s) {
			t.Errorf("%+v is no right sieve", s)
		}
	}
}

func TestSieveOkOfEachByteAndEachLength(t *testing.T) {
	for n := range 256 {
		b := string([]byte{byte(n)})
		letter := n >= 'a' && n <= 'z'
		for _, s := range []string{b, b + "m", "mmmmm" + b} {
			for _, w := range []writtenSieve{fromSieve(s), keepSieve(s), groupSieve(s), orderSieve(s, true), letSieve(s, lowSum()), joinSieve(s, lowSum())} {
				if impl.SieveOk(w.sieve) != letter {
					t.Errorf("%+v: want %v", w.sieve, letter)
				}
			}
		}
	}
	for n := range 40 {
		s, right := strings.Repeat("q", n), n >= 1 && n <= 6
		for _, w := range []writtenSieve{fromSieve(s), keepSieve("a", s), groupSieve("a", s), orderSieve(s, false), letSieve(s, lowSum()), joinSieve(s, lowSum()), leftSieve(s, lowSum())} {
			if impl.SieveOk(w.sieve) != right {
				t.Errorf("%+v: want %v", w.sieve, right)
			}
		}
	}
}

func TestSieveOkOfEachCountAndSkip(t *testing.T) {
	for n := int64(-30); n <= 1030; n++ {
		right := n >= 0 && n <= 1000
		if impl.SieveOk(limitSieve(n, 7).sieve) != right || impl.SieveOk(limitSieve(7, n).sieve) != right {
			t.Errorf("limit of %d: want %v", n, right)
		}
	}
}

func sameSieve(a impl.Sieve, b impl.Sieve) bool {
	return a.Kind == b.Kind && a.Name == b.Name && slices.Equal(a.Names, b.Names) && slices.Equal(a.Sum, b.Sum) && a.Down == b.Down && a.Count == b.Count && a.Skip == b.Skip
}

func wantAskRead(t *testing.T, s string, want ask, is bool) {
	t.Helper()
	if got, right := impl.ReadAsk(s); !slices.EqualFunc(got, want, sameSieve) || right != is {
		t.Errorf("ReadAsk %q: %+v %v; want %+v %v", s, got, right, want, is)
	}
}

func wantNoAskRead(t *testing.T, texts ...string) {
	t.Helper()
	for _, s := range texts {
		wantAskRead(t, s, nil, false)
	}
}

// wantAsk: AskOk, ShowAsk and ReadAsk of a question of these Sieves.
func wantAsk(t *testing.T, list ...writtenSieve) {
	t.Helper()
	l, texts := sievesOf(list)
	if s := impl.ShowAsk(l); !impl.AskOk(l) || s != strings.Join(texts, " | ") {
		t.Errorf("%q: AskOk %v, ShowAsk %q", texts, impl.AskOk(l), s)
	}
	wantAskRead(t, strings.Join(texts, " | "), l, true)
}

func sievesOf(list []writtenSieve) (ask, []string) {
	l, texts := ask{}, []string{}
	for _, w := range list {
		l, texts = append(l, w.sieve), append(texts, w.text)
	}
	return l, texts
}

func wantNoAsk(t *testing.T, l ask) {
	t.Helper()
	if s := impl.ShowAsk(l); impl.AskOk(l) || s != "" {
		t.Errorf("%+v is no question: AskOk %v, ShowAsk %q", l, impl.AskOk(l), s)
	}
}

// The texts stand here as the document has them, not put together.
func TestShowAskOfWrittenQuestions(t *testing.T) {
	a, b, five := nameItem("a"), nameItem("b"), numberItem(5)
	from, below := impl.Sieve{Kind: impl.SvFrom, Name: "t"}, sum{a, five, signItem(impl.ItBelow)}
	cases := []struct {
		text string
		ask  ask
	}{
		{"from t", ask{from}},
		{"from t | where (a < 5)", ask{from, {Kind: impl.SvWhere, Sum: below}}},
		{"from t | where a", ask{from, {Kind: impl.SvWhere, Sum: sum{a}}}},
		{"from t | let x = (a < 5)", ask{from, {Kind: impl.SvLet, Name: "x", Sum: below}}},
		{"from t | let x = 'ab'", ask{from, {Kind: impl.SvLet, Name: "x", Sum: sum{cellItem(text("ab"))}}}},
		{"from t | keep a", ask{from, {Kind: impl.SvKeep, Names: []string{"a"}}}},
		{"from t | keep b a c", ask{from, {Kind: impl.SvKeep, Names: []string{"b", "a", "c"}}}},
		{"from t | join u on (a = b)", ask{from, {Kind: impl.SvJoin, Name: "u", Sum: sum{a, b, signItem(impl.ItSame)}}}},
		{"from t | left u on (not (lacks a))", ask{from, {Kind: impl.SvLeft, Name: "u", Sum: sum{a, signItem(impl.ItLacks), signItem(impl.ItNot)}}}},
		{"from t | group", ask{from, {Kind: impl.SvGroup}}},
		{"from t | group b a", ask{from, {Kind: impl.SvGroup, Names: []string{"b", "a"}}}},
		{"from t | order a", ask{from, {Kind: impl.SvOrder, Name: "a"}}},
		{"from t | order a down", ask{from, {Kind: impl.SvOrder, Name: "a", Down: true}}},
		{"from t | limit 5 0", ask{from, {Kind: impl.SvLimit, Count: 5}}},
		{"from t | limit 0 1000", ask{from, {Kind: impl.SvLimit, Skip: 1000}}},
		{"from t | limit 0 0", ask{from, {Kind: impl.SvLimit}}},
		{"from t | once", ask{from, {Kind: impl.SvOnce}}},
		{"from t | once | once", ask{from, {Kind: impl.SvOnce}, {Kind: impl.SvOnce}}},
		{"from on | join on on on | order down down | keep keep", ask{{Kind: impl.SvFrom, Name: "on"}, {Kind: impl.SvJoin, Name: "on", Sum: sum{nameItem("on")}}, {Kind: impl.SvOrder, Name: "down", Down: true}, {Kind: impl.SvKeep, Names: []string{"keep"}}}},
		{"from t | order down | group down | order on | let let = let", ask{from, {Kind: impl.SvOrder, Name: "down"}, {Kind: impl.SvGroup, Names: []string{"down"}}, {Kind: impl.SvOrder, Name: "on"}, {Kind: impl.SvLet, Name: "let", Sum: sum{nameItem("let")}}}},
		{"from from | where where | limit 1 2 | left left on left", ask{{Kind: impl.SvFrom, Name: "from"}, {Kind: impl.SvWhere, Sum: sum{nameItem("where")}}, {Kind: impl.SvLimit, Count: 1, Skip: 2}, {Kind: impl.SvLeft, Name: "left", Sum: sum{nameItem("left")}}}},
	}
	for _, c := range cases {
		if s := impl.ShowAsk(c.ask); !impl.AskOk(c.ask) || s != c.text {
			t.Errorf("%+v: AskOk %v, ShowAsk %q; want %q", c.ask, impl.AskOk(c.ask), s, c.text)
		}
		wantAskRead(t, c.text, c.ask, true)
	}
}

// Promise 10, of each Sieve behind SvFrom, of each two, and of SvFrom alone.
func TestPromise10OfEachSieve(t *testing.T) {
	for _, name := range rightNames() {
		wantAsk(t, fromSieve(name))
	}
	for _, w := range slices.Concat(eachSieve(), edgeSieves()) {
		wantAsk(t, fromSieve("t"), w)
	}
	for _, w := range eachSieve() {
		for _, x := range slices.Concat(eachSieve(), edgeSieves()) {
			wantAsk(t, fromSieve("t"), w, x)
			wantAsk(t, fromSieve("t"), x, w)
		}
	}
}

func mixedAsk(d *dice, sieves []writtenSieve, size int) []writtenSieve {
	list := []writtenSieve{fromSieve(rightNames()[d.below(len(rightNames()))])}
	for len(list) < size {
		list = append(list, sieves[d.below(len(sieves))])
	}
	return list
}

// mixedSieves has Sieves of each Kind, and as many of each.
func mixedSieves() []writtenSieve {
	list, names, d := []writtenSieve{}, rightNames(), &dice{10}
	for i, w := range mixedSums() {
		name, other := names[d.below(len(names))], names[i%len(names)]
		list = append(list, whereSieve(w), letSieve(name, w), joinSieve(name, w), leftSieve(name, w), orderSieve(name, i%2 == 0), limitSieve(int64(d.below(1001)), int64(d.below(1001))), onceSieve())
		if name != other {
			list = append(list, keepSieve(name, other), groupSieve(other, name))
		}
	}
	return list
}

func TestPromise10OfMixedQuestions(t *testing.T) {
	sieves, d := mixedSieves(), &dice{4}
	for n := range 4000 {
		wantAsk(t, mixedAsk(d, sieves, 1+n%impl.MaxSieves)...)
	}
}

// longestSum is one of those whose texts are the longest that there are.
func longestSum() writtenSum {
	cell := aloneSum(cellItem(text("abcdefghijkl")), "'abcdefghijkl'")
	w := cell
	for len(w.sum) < impl.MaxItems-1 {
		w = pairSum(cell, "and", w)
	}
	return aheadSum("lacks", w)
}

// Promise 10 has no MaxText.
func TestPromise10OfTheLongestTexts(t *testing.T) {
	long := longestSum()
	if len(long.sum) != impl.MaxItems {
		t.Fatalf("%d Items", len(long.sum))
	}
	for _, w := range []writtenSieve{whereSieve(long), letSieve("abcdef", long), joinSieve("abcdef", long), leftSieve("abcdef", long)} {
		list := append([]writtenSieve{fromSieve("abcdef")}, slices.Repeat([]writtenSieve{w}, impl.MaxSieves-1)...)
		if _, texts := sievesOf(list); len(strings.Join(texts, " | ")) <= impl.MaxText {
			t.Errorf("%s is not long", w.text)
		}
		wantAsk(t, list...)
	}
}

func TestAskOkOfMaxSievesAndOfOneMore(t *testing.T) {
	for _, w := range eachSieve() {
		for count := 1; count < 12; count++ {
			list := append([]writtenSieve{fromSieve("t")}, slices.Repeat([]writtenSieve{w}, count-1)...)
			l, texts := sievesOf(list)
			if count <= 8 {
				wantAsk(t, list...)
			} else {
				wantNoAsk(t, l)
				wantNoAskRead(t, strings.Join(texts, " | "), strings.Join(texts, "|"))
			}
		}
		l, _ := sievesOf(append([]writtenSieve{fromSieve("t")}, slices.Repeat([]writtenSieve{w}, 3000)...))
		wantNoAsk(t, l)
	}
}

func TestAskOkOfNoSievesAndOfSvFromElsewhere(t *testing.T) {
	wantNoAsk(t, nil)
	wantNoAsk(t, ask{})
	from := fromSieve("t")
	wantNoAsk(t, ask{from.sieve, from.sieve})
	wantNoAsk(t, ask{from.sieve, fromSieve("u").sieve})
	wantNoAskRead(t, "from t | from t", "from t | from u")
	for _, w := range slices.Concat(eachSieve(), edgeSieves()[:60]) {
		for _, list := range [][]writtenSieve{{w}, {w, w}, {w, from}, {w, from, w}, {from, from, w}, {from, w, from}, {from, w, w, fromSieve("u")}, {from, w, from, w, w, w, w, w}, {from, w, w, w, w, w, w, from}} {
			l, texts := sievesOf(list)
			wantNoAsk(t, l)
			wantNoAskRead(t, strings.Join(texts, " | "))
		}
	}
}

func TestAskOkOfAWrongSieveAnywhere(t *testing.T) {
	from, once := fromSieve("t").sieve, onceSieve().sieve
	for _, s := range wrongSieves() {
		for _, l := range []ask{{s}, {s, once}, {from, s}, {from, s, once}, {from, once, s}, {from, once, once, once, once, once, once, s}} {
			wantNoAsk(t, l)
		}
	}
}

// A text in which what is wrong can be written is not read either.
func TestReadAskOfWrongSieves(t *testing.T) {
	list := []writtenSieve{keepSieve(), keepSieve(letters(7)...), keepSieve(letters(26)...), groupSieve(letters(5)...), groupSieve(letters(6)...), keepSieve("a", "a"), keepSieve("a", "b", "a"), groupSieve("a", "a"), groupSieve("b", "a", "a"), keepSieve("a", "b", "c", "d", "e", "a")}
	for _, n := range []int64{-1, 1001, -1000, 1002, 9999, 999999999, 1000000000, 1000000001, 4294967301, math.MaxInt64, math.MinInt64} {
		list = append(list, limitSieve(n, 0), limitSieve(0, n), limitSieve(5, n), limitSieve(n, 5), limitSieve(n, n))
	}
	for _, name := range slices.Concat(barredWords(), signBytes(), []string{"abcdefg", "A", "aB", "a_b", "1", "0", "'a'", "none", "é", "\x00", "a\n", "grouped"}) {
		list = append(list, fromSieve(name), letSieve(name, lowSum()), keepSieve(name), keepSieve("a", name), keepSieve(name, "b"), joinSieve(name, lowSum()), leftSieve(name, lowSum()), groupSieve(name), groupSieve("a", name, "b"), orderSieve(name, false), orderSieve(name, true))
	}
	for _, w := range longSums(impl.MaxItems + 1) {
		list = append(list, whereSieve(w), letSieve("x", w), joinSieve("u", w), leftSieve("u", w))
	}
	for _, w := range list {
		wantNoAskRead(t, "from t | "+w.text, "from t | once | "+w.text, "from t | "+w.text+" | once", w.text)
	}
	for _, name := range slices.Concat(barredWords(), signBytes(), []string{"abcdefg", "A", "1", "'a'", "é"}) {
		wantNoAskRead(t, "from "+name, "from "+name+" | once")
	}
}

// What is behind the texts is the same whatever the blanks are.
func TestReadAskOfOtherBlanks(t *testing.T) {
	cases := map[string][]string{
		"from t": {" from t", "from t ", "   from    t   ", "from  t"},
		"from t | where ((a + 1) < b) | once": {
			"from t|where a+1<b|once", "from t | where a + 1 < b | once", "from t| where(a+1)<b |once", "  from  t  |  where  a  +  1  <  b  |  once  ", "from t|where ( ( a+1 )<b )|once ", " from t |where((a+1)<b)|once",
		},
		"from t | let x = (a - 1)":       {"from t|let x=a - 1", "from t | let x =a - 1", "from t | let x= a - 1", "from t|let  x  =  a  -  1", "from t | let x=(a - 1)"},
		"from t | join u on (c = x)":     {"from t|join u on c=x", "from t | join u on(c=x)", "from t |join  u  on  c = x", "from t|join u on ( c = x )"},
		"from t | left u on (lacks a)":   {"from t|left u on lacks a", "from t | left u on(lacks a)", "from t|left   u on lacks(a)"},
		"from t | let x = -5":            {"from t | let x=-5", "from t|let x= -5", "from t | let x =  -5"},
		"from t | where ('ab' = a)":      {"from t | where'ab'=a", "from t | where 'ab'=a", "from t|where('ab'=a)"},
		"from t | keep a b | group a b":  {"from t|keep a b|group a b", "from t|keep  a   b  |  group  a b ", "from t | keep a b|group  a  b"},
		"from t | group | once":          {"from t|group|once", "from t | group   | once", "from t |group| once"},
		"from t | order a down":          {"from t|order a down", "from t|order  a  down  ", "from t | order a    down"},
		"from t | limit 5 0 | limit 0 7": {"from t|limit 5 0|limit 0 7", "from t |limit  5  0  | limit   0   7", "from t|limit 5  0|  limit 0 7 "},
		"from t | order down | once":     {"from t|order  down|once", "from t | order down   |once"},
	}
	for want, texts := range cases {
		l, is := impl.ReadAsk(want)
		if s := impl.ShowAsk(l); !is || s != want {
			t.Errorf("ReadAsk %q: %v, shown as %q", want, is, s)
		}
		for _, s := range texts {
			wantAskRead(t, s, l, true)
		}
	}
}

// blanksElsewhere are the same tokens with other blanks between them.
func blanksElsewhere(s string) []string {
	close := strings.ReplaceAll(s, " | ", "|")
	bare := regexp.MustCompile(` *([()=<+*/|]) *`).ReplaceAllString(s, "$1")
	return []string{close, bare, strings.ReplaceAll(s, " ", "   "), " " + s, s + "  ", strings.ReplaceAll(close, " ", "  "), strings.ReplaceAll(s, " | ", "| "), strings.ReplaceAll(s, " | ", " |"), strings.ReplaceAll(s, "|", "  |  ")}
}

func TestReadAskOfMixedQuestionsWithOtherBlanks(t *testing.T) {
	sieves, d := mixedSieves(), &dice{5}
	for n := range 500 {
		l, texts := sievesOf(mixedAsk(d, sieves, 1+n%impl.MaxSieves))
		for _, s := range blanksElsewhere(strings.Join(texts, " | ")) {
			wantAskRead(t, s, l, true)
		}
	}
}

// However many blanks there are, they part no more than one does.
func TestReadAskOfManyBlanks(t *testing.T) {
	for _, s := range []string{"from t", "from t | where (a < 5)", "from t | let x = (a < 5)", "from t | keep a b", "from t | join u on (a < 5)", "from t | group a", "from t | order a down", "from t | limit 5 2", "from t | once"} {
		l, _ := impl.ReadAsk(s)
		for _, count := range []int{100, impl.MaxText - 10, impl.MaxText, impl.MaxText + 1, 3 * impl.MaxText} {
			many := strings.Repeat(" ", count)
			for _, x := range []string{many + s, s + many, strings.ReplaceAll(s, " ", many), strings.Replace(s, "<", "<"+many, 1), strings.Replace(s, "|", many+"|", 1)} {
				wantAskRead(t, x, l, true)
			}
		}
	}
	for _, count := range []int{1, 100, impl.MaxText + 1} {
		many := strings.Repeat(" ", count)
		wantNoAskRead(t, many, many+"|"+many, "from t |"+many, many+"| from t", "from t"+many+"?", many+"from", "from t | where"+many)
	}
}

// A blank is the byte 32 alone.
func TestReadAskOfWhatIsNoBlank(t *testing.T) {
	for _, b := range []string{"\t", "\n", "\r", "\v", "\f", "\x00", "\u00a0", "\u2003", "_", ","} {
		for _, s := range []string{"from%t", "from t% | once", "from t | %once", "from t%|%once", "%from t", "from t | once%", "from t | where a%< 5", "from t | keep a%b", "from t | limit 5%0", "from t | order a%down"} {
			wantNoAskRead(t, strings.ReplaceAll(s, "%", b))
		}
	}
}

// Sums may have fewer parentheses, and more.
func TestReadAskOfOtherParentheses(t *testing.T) {
	for written, want := range map[string]string{
		"a + b * c": "(a + (b * c))", "(a + b) * c": "((a + b) * c)", "((a))": "a", "(((a + b)))": "(a + b)", "a - b - c": "((a - b) - c)", "a - (b - c)": "(a - (b - c))", "not a and b or c": "(((not a) and b) or c)",
		"not (a and (b or c))": "(not (a and (b or c)))", "a < 5 and not lacks b": "((a < 5) and (not (lacks b)))", "((a) < (5))": "(a < 5)", "(not (a))": "(not a)", "a = b": "(a = b)", "(a = b) = c": "((a = b) = c)", "5-3": "", "5 - 3": "(5 - 3)",
		"(a": "", "a)": "", "()": "", "a = b = c": "", "a < b < c": "", "a + not b": "", "": "", "a b": "", "a +": "", "+ a": "", "not": "", "a not": "", "= a": "", "a on b": "",
	} {
		for _, frame := range []string{"from t | where %", "from t | let x = %", "from t | join u on %", "from t | left u on %", "from t | once | where % | once", "from t | let on = % | keep a"} {
			s := strings.ReplaceAll(frame, "%", written)
			if want == "" {
				wantNoAskRead(t, s)
				continue
			}
			l, is := impl.ReadAsk(s)
			if shown := impl.ShowAsk(l); !is || shown != strings.ReplaceAll(frame, "%", want) {
				t.Errorf("ReadAsk %q: %v, shown as %q", s, is, shown)
			}
		}
	}
	for _, count := range []int{1, 10, 500, 900} {
		w := lowSum()
		deep := strings.Repeat("(", count) + w.text + strings.Repeat(")", count)
		wantAskRead(t, "from t | where "+deep, ask{fromSieve("t").sieve, whereSieve(w).sieve}, true)
		wantNoAskRead(t, "from t | where ("+deep, "from t | where "+deep+")")
	}
}

func TestReadAskOfEmptyPieces(t *testing.T) {
	wantNoAskRead(t, "", " ", "|", " | ", "||", "| |", "|from t", "| from t", "from t|", "from t |", "from t | ", "from t || once", "from t | | once", "from t ||", "|| from t", "from t | once |", "from t | once | | once", "from | t", "fr|om t", "from t | where a | < 5")
	for _, w := range slices.Concat(eachSieve(), edgeSieves()[:80]) {
		s := "from t | " + w.text
		wantNoAskRead(t, "|"+s, s+"|", s+" | ", strings.Replace(s, "|", "||", 1), strings.Replace(s, "|", "| |", 1), s+"||once", s+" | | once", strings.Replace(s, "|", "", 1))
	}
}

func TestReadAskOfWordsThatNoSieveBeginsWith(t *testing.T) {
	for _, word := range slices.Concat(nearNames(), barredWords(), signBytes(), []string{"a", "on", "down", "form", "fromm", "wher", "wheres", "lets", "lett", "kept", "keeps", "joins", "joi", "lef", "lefts", "groups", "orders", "limits", "onces", "onc", "From", "FROM", "Once", "select", "5", "0", "-1", "'once'", "''"}) {
		if word == "where" {
			continue
		}
		for _, behind := range []string{"", " a", " a = 5", " a on b", " 5 0", " a down"} {
			wantNoAskRead(t, "from t | "+word+behind, "from t | once | "+word+behind, "from t | "+word+behind+" | once", word+behind)
		}
	}
}

// Of each Kind each way in which something is missing or something more is
// there.
func TestReadAskOfTooLittleAndTooMuch(t *testing.T) {
	for _, s := range []string{
		"from", "from t u", "from t 5", "from t from", "from t =", "from 5", "from 'a'", "from (t)", "from t on", "from t once", "t", "from t;",
		"where", "where a b", "where a = ", "where = a", "where a where b", "where (a", "where a)", "where a,", "where a on b", "where a down",
		"let", "let x", "let x =", "let = a", "let x a", "let x = = a", "let x < a", "let x y = a", "let 5 = a", "let (x) = a", "let x = a b", "let x == a", "let x on a", "let a + b", "let x = a = b = c",
		"keep", "keep 5", "keep a 5", "keep a, b", "keep (a)", "keep a = b", "keep a + b", "keep 'a'", "keep a and b", "keep a b c d e f g",
		"join", "join u", "join u on", "join on a", "join u a", "join u = a", "join u on = a", "join u onn a", "join u o a", "join u v on a", "join u on a b", "join 5 on a", "join u on on a", "join (u) on a", "join u ona", "join u on a on b",
		"left", "left u", "left u on", "left on a", "left u a", "left u = a", "left u on a b", "left u v on a", "left join u on a", "left 'u' on a", "left u where a",
		"group 5", "group a 5", "group a, b", "group (a)", "group a b c d e", "group a = b", "group 'a'", "group and", "group by a b c d",
		"order", "order a up", "order a b", "order a down down", "order a 5", "order 5", "order 5 down", "order a Down", "order a downn", "order a dow", "order a, b", "order a b down", "order down down down", "order (a)", "order a = down", "order 'down'", "order a 'down'",
		"limit", "limit 5", "limit 5 0 0", "limit a", "limit 5 a", "limit a 5", "limit 5, 0", "limit 5 down", "limit -1 0", "limit 0 -1", "limit 1001 0", "limit 0 1001", "limit 5 skip 0", "limit 5 5 once", "limit (5) 0", "limit 5 (0)", "limit +5 0", "limit 5 - 0",
		"limit none 5", "limit 5 none", "limit none none", "limit yes no", "limit 'a' 'b'", "limit yes 5", "limit 5 no", "limit '5' 0", "limit 5.0 0", "limit 5 00", "limit 05 0", "limit 0 05", "limit 00 0", "limit 0x5 0", "limit -0 0", "limit 0 -0", "limit - 5 0", "limit 5 = 0", "limit 1000000001 0", "limit 5 99999999999999999999", "limit 18446744073709551621 0",
		"once twice", "once once", "once a", "once 5", "once =", "once (", "once ()",
	} {
		wantNoAskRead(t, "from t | "+s, "from t | once | "+s, "from t | "+s+" | once")
		if !strings.HasPrefix(s, "from") {
			wantNoAskRead(t, s)
		}
	}
	wantNoAskRead(t, "from", "from t u", "from t 5", "from 5", "from 'a'", "from (t)", "from t =", "from t once", "t", "from t;", "from t where a", "from t | from", "from from from")
}

func TestReadAskOfEachByte(t *testing.T) {
	for n := range 256 {
		b := string([]byte{byte(n)})
		inToken := strings.Contains("abcdefghijklmnopqrstuvwxyz0123456789+-*/=<()' |", b)
		for _, s := range []string{"%", "from t %", "from t | once%", "from t | where a % 5", "from t | where a %", "from t | where %a", "from t % once", "from t | keep a % b", "from t | limit 5 %", "%from t", "from t | let x % a", "from t | where 'a%b' = c"} {
			x := strings.ReplaceAll(s, "%", b)
			if _, is := impl.ReadAsk(x); is && !inToken {
				t.Errorf("ReadAsk %q", x)
			}
			wantSecondWay(t, x)
		}
	}
}

// sieveForms read a Sieve whose tokens have one blank between, by another way.
func sieveForms() map[int64]*regexp.Regexp {
	forms := map[int64]*regexp.Regexp{}
	for kind, form := range map[int64]string{
		impl.SvFrom: `from (?P<name>[a-z]+)`, impl.SvWhere: `where (?P<sum>.+)`, impl.SvLet: `let (?P<name>[a-z]+) = (?P<sum>.+)`, impl.SvKeep: `keep(?P<names>( [a-z]+){1,6})`,
		impl.SvJoin: `join (?P<name>[a-z]+) on (?P<sum>.+)`, impl.SvLeft: `left (?P<name>[a-z]+) on (?P<sum>.+)`, impl.SvGroup: `group(?P<names>( [a-z]+){0,4})`,
		impl.SvOrder: `order (?P<name>[a-z]+)(?P<down> down)?`, impl.SvLimit: `limit (?P<count>[0-9]+) (?P<skip>[0-9]+)`, impl.SvOnce: `once`,
	} {
		forms[kind] = regexp.MustCompile(`\A` + form + `\z`)
	}
	return forms
}

// formPart is what stands in that part of the form; empty where it has none.
func formPart(form *regexp.Regexp, match []string, part string) string {
	if at := form.SubexpIndex(part); at >= 0 {
		return match[at]
	}
	return ""
}

// sieveByForm: a piece is a Sieve of that Kind where its form has it, and what
// stands in it is right.
func sieveByForm(kind int64, form *regexp.Regexp, piece string) (impl.Sieve, bool) {
	match := form.FindStringSubmatch(piece)
	if match == nil {
		return impl.Sieve{}, false
	}
	s, right := impl.Sieve{Kind: kind, Name: formPart(form, match, "name"), Down: formPart(form, match, "down") != ""}, true
	s.Names = strings.Fields(formPart(form, match, "names"))
	for i, name := range s.Names {
		right = right && impl.TokenOk(nameToken(name)) && slices.Index(s.Names, name) == i
	}
	if form.SubexpIndex("name") >= 0 {
		right = right && impl.TokenOk(nameToken(s.Name))
	}
	if form.SubexpIndex("sum") >= 0 {
		list, _ := impl.TokensOf(formPart(form, match, "sum"))
		l, read := impl.ReadSum(list)
		s.Sum, right = l, right && read
	}
	if form.SubexpIndex("count") >= 0 {
		s.Count, _ = strconv.ParseInt(formPart(form, match, "count"), 10, 64)
		s.Skip, _ = strconv.ParseInt(formPart(form, match, "skip"), 10, 64)
		right = right && s.Count <= 1000 && s.Skip <= 1000
	}
	return s, right
}

// askByForm is for texts of at most MaxText bytes.
func askByForm(forms map[int64]*regexp.Regexp, s string) (ask, bool) {
	l := ask{}
	for i, piece := range strings.Split(s, "|") {
		list, is := impl.TokensOf(piece)
		x, found := impl.Sieve{}, false
		for _, kind := range slices.Sorted(maps.Keys(forms)) {
			if one, right := sieveByForm(kind, forms[kind], impl.TextOf(list)); is && right {
				x, found = one, true
			}
		}
		if !found || (x.Kind == impl.SvFrom) != (i == 0) || i >= 8 {
			return nil, false
		}
		l = append(l, x)
	}
	return l, true
}

func wantSecondWay(t *testing.T, texts ...string) {
	t.Helper()
	forms := sieveForms()
	for _, s := range texts {
		want, is := askByForm(forms, s)
		wantAskRead(t, s, want, is)
	}
}

func TestReadAskOfAllShortTexts(t *testing.T) {
	pieces := []string{"from", "where", "let", "keep", "join", "left", "on", "group", "order", "down", "limit", "once", "=", "0", "|", "not", "none"}
	texts := []string{}
	for _, list := range allLists(3, pieces...) {
		s := strings.Join(list, " ")
		texts = append(texts, s, "from t | "+s, "from t | order "+s, "from t | let x = "+s, "from t | join u "+s, "from t | limit 7 "+s)
	}
	for _, list := range allLists(4, "join", "keep", "on", "=", "5", "limit") {
		texts = append(texts, "from t | "+strings.Join(list, " "), "from t|"+strings.Join(list, ""))
	}
	wantSecondWay(t, texts...)
}

// mangled is the text with a byte, or a word, that is lost, doubled, swapped
// or another one.
func mangled(d *dice, s string) string {
	if d.below(2) == 0 {
		words := strings.Split(s, " ")
		at, other := d.below(len(words)), d.below(len(words))
		switch d.below(3) {
		case 0:
			words = slices.Delete(words, at, at+1)
		case 1:
			words = slices.Insert(words, at, words[other])
		case 2:
			words[at], words[other] = words[other], words[at]
		}
		return strings.Join(words, " ")
	}
	bytes := "abnot 015-+*/=<()'|  ?"
	at, b := d.below(len(s)), bytes[d.below(len(bytes))]
	switch d.below(3) {
	case 0:
		return s[:at] + s[at+1:]
	case 1:
		return s[:at] + string(b) + s[at:]
	}
	return s[:at] + string(b) + s[at+1:]
}

func TestReadAskOfMangledTexts(t *testing.T) {
	sieves, d := slices.Concat(eachSieve(), edgeSieves()), &dice{6}
	texts, read := []string{}, 0
	for n := range 8000 {
		_, pieces := sievesOf(mixedAsk(d, sieves, 1+n%4))
		s := strings.Join(pieces, " | ")
		for range 1 + d.below(3) {
			s = mangled(d, s+" ")
		}
		texts = append(texts, s)
		if l, is := impl.ReadAsk(s); is {
			read++
			if again, right := impl.ReadAsk(impl.ShowAsk(l)); !impl.AskOk(l) || !right || !slices.EqualFunc(l, again, sameSieve) {
				t.Errorf("%q is read as %+v, which is no question or read as %+v", s, l, again)
			}
		}
	}
	wantSecondWay(t, texts...)
	if read < 500 || read > 7500 {
		t.Errorf("%d of the mangled texts are questions: too few or too many to tell", read)
	}
}

// Words, numbers and signs need a blank only where TokensOf would not part
// them without.
func TestReadAskOfTokensWithoutABlank(t *testing.T) {
	from := fromSieve("t").sieve
	wantAskRead(t, "from t|limit5 0", ask{from, limitSieve(5, 0).sieve}, true)
	wantAskRead(t, "from t|limit 05", ask{from, limitSieve(0, 5).sieve}, true)
	wantAskRead(t, "from t|where-5<a", ask{from, {Kind: impl.SvWhere, Sum: sum{numberItem(-5), nameItem("a"), signItem(impl.ItBelow)}}}, true)
	wantAskRead(t, "from t|join u on'a'", ask{from, {Kind: impl.SvJoin, Name: "u", Sum: sum{cellItem(text("a"))}}}, true)
	wantNoAskRead(t, "fromt", "from t|wherea", "from t|letx=a", "from t|keepa", "from t|joinu on a", "from t|join uon a", "from t|join u ona", "from t|groupa", "from t|ordera", "from t|limit 50", "from t|limit 5-0", "from t|onceonce", "from t once")
	wantAskRead(t, "from t|order adown", ask{from, orderSieve("adown", false).sieve}, true)
}

func sieveSpans(what string, s impl.Sieve) []span {
	return []span{spanOf(what+", names", s.Names), spanOf(what+", sum", s.Sum)}
}

func askSpans(what string, l ask) []span {
	out := []span{spanOf(what, l)}
	for i, s := range l {
		out = append(out, sieveSpans(fmt.Sprint(what, ", sieve ", i), s)...)
	}
	return out
}

// roomyAsk is the same list, with spare room behind each of its lists.
func roomyAsk(l ask) ask {
	out := ask{}
	for _, s := range l {
		s.Names, s.Sum = roomyColumns(s.Names), roomySum(s.Sum)
		out = append(out, s)
	}
	spare := impl.Sieve{Kind: 77, Name: "spare", Names: []string{"room"}, Count: 7}
	return append(out, spare, spare)[:len(l)]
}

// wholeAsk tells all that is in a list of Sieves and in the spare room behind
// its lists.
func wholeAsk(l ask) ask {
	out := ask{}
	for _, s := range l[:cap(l)] {
		s.Names, s.Sum = slices.Clone(s.Names[:cap(s.Names)]), slices.Clone(s.Sum[:cap(s.Sum)])
		out = append(out, s)
	}
	return out
}

func copiedAsk(l ask) ask {
	out := ask{}
	for _, s := range l {
		s.Names, s.Sum = slices.Clone(s.Names), slices.Clone(s.Sum)
		out = append(out, s)
	}
	return out
}

func scribbleAsk(l ask) {
	for i, s := range l[:cap(l)] {
		for k := range s.Names[:cap(s.Names)] {
			s.Names[:cap(s.Names)][k] = "scrib"
		}
		for k := range s.Sum[:cap(s.Sum)] {
			s.Sum[:cap(s.Sum)][k] = impl.Item{Kind: 99, Name: "scrib"}
		}
		l[:cap(l)][i] = impl.Sieve{Kind: 99, Name: "scrib"}
	}
}

// someAsks are questions, and lists that are none.
func someAsks() []ask {
	from, sieves, d := fromSieve("t").sieve, slices.Concat(eachSieve(), edgeSieves()), &dice{7}
	list := []ask{nil, {}, {from}, {from, from}, {{}}, {{Kind: 99, Names: []string{"b", "a", "b"}, Sum: sum{signItem(impl.ItPlus)}}}}
	for _, s := range wrongSieves() {
		list = append(list, ask{s}, ask{from, s})
	}
	for n := range 600 {
		l, _ := sievesOf(mixedAsk(d, sieves, 1+n%(impl.MaxSieves+2)))
		list = append(list, l)
	}
	return list
}

func TestSievesLeaveTheirArguments(t *testing.T) {
	for _, l := range someAsks() {
		given := roomyAsk(l)
		before := wholeAsk(given)
		ok, shown := impl.AskOk(given), impl.ShowAsk(given)
		for _, s := range given {
			impl.SieveOk(s)
		}
		if !slices.EqualFunc(before, wholeAsk(given), sameSieve) {
			t.Errorf("one of the three writes into %+v", l)
		}
		want := strings.Clone(shown)
		scribbleAsk(given)
		if shown != want || impl.AskOk(l) != ok || impl.ShowAsk(l) != want {
			t.Errorf("ShowAsk %+v shares memory with its argument, or is another one", l)
		}
	}
}

// Lists that share memory, or one list in several places, are as right as
// others.
func TestSievesThatShareMemory(t *testing.T) {
	names, low := []string{"a", "b", "c", "a"}, lowSum()
	l := ask{fromSieve("t").sieve, keepSieve(names[:3]...).sieve, groupSieve(names[1:]...).sieve, keepSieve(names[1:4]...).sieve, whereSieve(low).sieve, letSieve("x", low).sieve, {Kind: impl.SvWhere, Sum: low.sum[:1]}}
	want := "from t | keep a b c | group b c a | keep b c a | where (a < 5) | let x = (a < 5) | where a"
	if s := impl.ShowAsk(l); s != want {
		t.Errorf("ShowAsk %q; want %q", s, want)
	}
	if !slices.Equal(names, []string{"a", "b", "c", "a"}) || !slices.Equal(low.sum, lowSum().sum) {
		t.Errorf("ShowAsk writes into %q or %+v", names, low.sum)
	}
}

// Each answer of ReadAsk, be it right or refused, is memory of its own, and no
// two lists in it share any.
func TestReadAskIsNewMemory(t *testing.T) {
	texts, d := []string{"", "|", "from t", "from t |", "from t | keep a a", "from t | keep a b | keep a b | group a b | group a b", "from t | where a < 5 | where a < 5 | let x = a < 5 | where", "from t | where a < 5 | where a < 5 | let x = a < 5 | once"}, &dice{8}
	for n := range 400 {
		_, pieces := sievesOf(mixedAsk(d, slices.Concat(eachSieve(), edgeSieves()), 1+n%(impl.MaxSieves+1)))
		texts = append(texts, strings.Join(pieces, " | "), mangled(d, strings.Join(pieces, "|")))
	}
	for _, s := range texts {
		whole := s + " | once 77"
		given := whole[:len(s)]
		first, is := impl.ReadAsk(given)
		second, _ := impl.ReadAsk(given)
		want := copiedAsk(second)
		wantApart(t, fmt.Sprintf("ReadAsk %q", s), append(askSpans("one", first), askSpans("other", second)...), nil)
		scribbleAsk(first)
		if !slices.EqualFunc(second, want, sameSieve) || given != s || whole != s+" | once 77" {
			t.Errorf("ReadAsk %q: its answers share memory, or it writes into its argument", s)
		}
		wantAskRead(t, given, want, is)
	}
}
