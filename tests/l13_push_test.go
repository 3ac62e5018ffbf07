package tests

import (
	"fmt"
	"math"
	"slices"
	"strings"
	"testing"

	"loop.example/g00536/impl"
)

func wantSure(t *testing.T, l sum, want bool) {
	t.Helper()
	if impl.IsSure(l) != want {
		t.Errorf("IsSure %s: want %v", shownSum(l), want)
	}
}

// sureTexts are sums that are sure, unsureTexts are sums that are not.
func sureTexts() []string {
	return []string{"lacks a", "lacks count", "lacks 5", "lacks 'x'", "lacks ''", "lacks none", "lacks yes", "lacks no", "lacks lacks a", "lacks lacks lacks 7", "yes", "no", "none"}
}

func unsureTexts() []string {
	return []string{
		"a", "count", "5", "0", "1", "-1", "'x'", "''", "'yes'",
		"a + b", "a - b", "a * b", "a / b", "a = b", "a < b", "a and b", "a or b", "not a", "1 + 1", "1 < 2",
		"not yes", "not none", "not lacks a", "yes and no", "none or yes", "lacks a and lacks b", "lacks a or yes", "lacks a = yes",
		"lacks (a + b)", "lacks (a < b)", "lacks (not a)", "lacks (1 / 0)", "lacks (yes and no)", "lacks lacks (a + 1)", "not lacks lacks a",
	}
}

func TestIsSureOfEachLastItem(t *testing.T) {
	for _, s := range sureTexts() {
		wantSure(t, readText(t, s), true)
	}
	for _, s := range unsureTexts() {
		wantSure(t, readText(t, s), false)
	}
	for _, c := range allRight() {
		wantSure(t, sum{cellItem(c)}, c.Kind == impl.CeTruth || c.Kind == impl.CeNone)
		wantSure(t, sum{cellItem(c), signItem(impl.ItLacks)}, true)
		wantSure(t, sum{cellItem(c), signItem(impl.ItNot)}, false)
	}
	for _, name := range rightNames() {
		wantSure(t, sum{nameItem(name)}, false)
		wantSure(t, sum{nameItem(name), signItem(impl.ItLacks)}, true)
	}
}

// plain are Items that never fail.
func plain(x impl.Item) bool {
	return x.Kind == impl.ItCell || x.Kind == impl.ItName || x.Kind == impl.ItLacks
}

// sureByItems is IsSure of a sum by another way: two Items or more that are
// plain end with ItLacks.
func sureByItems(l sum) bool {
	for _, x := range l {
		if !plain(x) {
			return false
		}
	}
	last := l[len(l)-1]
	return len(l) > 1 || slices.Contains([]impl.Cell{{}, truth(0), truth(1)}, last.Cell) && last.Kind == impl.ItCell
}

func TestIsSureOfAllSmallSums(t *testing.T) {
	alone := []writtenSum{nameSum("a"), nameSum("b"), aloneSum(numberItem(5), "5"), aloneSum(cellItem(text("")), "''"), aloneSum(cellItem(impl.Cell{}), "none"), aloneSum(cellItem(truth(0)), "no"), aloneSum(cellItem(truth(1)), "yes")}
	for _, w := range slices.Concat(smallSums(4, alone...), someSums(), aloneSums(), mixedSums(), longSums(impl.MaxItems)) {
		wantSure(t, w.sum, sureByItems(w.sum))
	}
}

// What IsSure comes to an answer whatever the row is.
func TestWhatIsSurePassesOrNot(t *testing.T) {
	for _, s := range sureTexts() {
		l := readText(t, strings.ReplaceAll(s, "count", "b"))
		for _, c := range allRight() {
			if _, fault := impl.Passes(l, letters(2), row{c, c}); fault != impl.FtNone {
				t.Errorf("%s of %+v: the fault %d", s, c, fault)
			}
		}
	}
}

func TestIsSureOfWhatIsNoSum(t *testing.T) {
	a, lacks := nameItem("a"), signItem(impl.ItLacks)
	for _, l := range []sum{nil, {}, {lacks}, {lacks, a}, {a, a}, {a, a, lacks}, {a, cellItem(truth(1))}, {cellItem(truth(1)), cellItem(truth(1))}, {cellItem(impl.Cell{}), cellItem(impl.Cell{})}, {signItem(impl.ItNot)}} {
		wantSure(t, l, false)
	}
	for _, x := range wrongItems() {
		for _, l := range []sum{{x}, {x, lacks}, {x, lacks, lacks}, {a, x}, {cellItem(truth(1)), x}} {
			wantSure(t, l, impl.SumOk(l) && sureByItems(l))
		}
		if impl.SumOk(sum{a, x}) {
			t.Errorf("%+v is a right item", x)
		}
	}
	wantSure(t, lacksSum("a", impl.MaxItems), true)
	wantSure(t, lacksSum("a", impl.MaxItems+1), false)
	wantSure(t, slices.Repeat(sum{cellItem(truth(1))}, impl.MaxItems), false)
}

// lacksSum is a name with ItLacks behind it, of just that many Items: sure
// where these are two or more.
func lacksSum(name string, size int) sum {
	return append(sum{nameItem(name)}, slices.Repeat(sum{signItem(impl.ItLacks)}, size-1)...)
}

func whereOf(l sum) impl.Sieve { return impl.Sieve{Kind: impl.SvWhere, Sum: l} }

func wantSwap(t *testing.T, s impl.Sieve, other impl.Sieve, want bool) {
	t.Helper()
	if impl.MaySwap(s, other) != want {
		t.Errorf("MaySwap %+v and %+v: want %v", s, other, want)
	}
}

// A swapCase is two Sieves as words, the one ahead first.
type swapCase struct{ one, other string }

func wantSwaps(t *testing.T, want bool, cases ...swapCase) {
	t.Helper()
	for _, c := range cases {
		wantSwap(t, sieveFrom(t, c.one), sieveFrom(t, c.other), want)
	}
}

func TestMaySwapOfSvLet(t *testing.T) {
	wantSwaps(t, true,
		swapCase{"let x = b", "where a"}, swapCase{"let x = b", "where b"}, swapCase{"let x = 5", "where a < 5"}, swapCase{"let x = lacks a", "where a / b < 5"}, swapCase{"let x = 'q'", "where lacks a"},
		swapCase{"let x = none", "where 1 / 0"}, swapCase{"let x = lacks lacks b", "where not a and b"}, swapCase{"let x = x", "where a"}, swapCase{"let x = a", "where xx"}, swapCase{"let xx = a", "where x"},
		swapCase{"let x = a", "where yes"}, swapCase{"let x = a", "where 5"}, swapCase{"let x = a", "where 'x'"}, swapCase{"let x = a", "where 'x' = a"},
	)
	wantSwaps(t, false,
		swapCase{"let x = b", "where x"}, swapCase{"let x = b", "where lacks x"}, swapCase{"let x = b", "where a < x"}, swapCase{"let x = b", "where x < a"}, swapCase{"let x = b", "where a and b and x"}, swapCase{"let x = 5", "where lacks lacks x"},
		swapCase{"let x = a + b", "where a"}, swapCase{"let x = a + b", "where lacks a"}, swapCase{"let x = a = b", "where yes"}, swapCase{"let x = not a", "where lacks a"}, swapCase{"let x = 1 + 1", "where lacks a"},
		swapCase{"let x = lacks (a + b)", "where lacks a"}, swapCase{"let x = yes and no", "where a"}, swapCase{"let x = a / b", "where x"},
	)
}

func TestMaySwapOfSvKeep(t *testing.T) {
	wantSwaps(t, true,
		swapCase{"keep a", "where a"}, swapCase{"keep a", "where lacks a"}, swapCase{"keep a b", "where a < b"}, swapCase{"keep b a", "where a < b"}, swapCase{"keep b c a", "where a / b < 5"}, swapCase{"keep a", "where 5"}, swapCase{"keep a", "where yes"},
		swapCase{"keep a", "where a = a"}, swapCase{"keep a b c d e f", "where a + b + c = d + e + f"}, swapCase{"keep f e d c b a", "where f"}, swapCase{"keep a", "where 1 / 0 = 1"}, swapCase{"keep a", "where 'b' = a"},
	)
	wantSwaps(t, false,
		swapCase{"keep a", "where b"}, swapCase{"keep a", "where lacks b"}, swapCase{"keep a", "where a < b"}, swapCase{"keep b", "where a < b"}, swapCase{"keep a b c d e f", "where g"}, swapCase{"keep a b c d e f", "where a + b + c = d + e + g"},
		swapCase{"keep a c", "where a < b"}, swapCase{"keep aa", "where a"}, swapCase{"keep a", "where aa"}, swapCase{"keep b", "where lacks a and lacks b"},
	)
}

// SvKeep of all names of a Sum, and of all but one.
func TestMaySwapOfEachNameThatIsKept(t *testing.T) {
	for count := 1; count <= 6; count++ {
		w := nameSum("a")
		for _, name := range letters(count)[1:] {
			w = pairSum(w, "+", nameSum(name))
		}
		wantSwap(t, keepSieve(letters(count)...).sieve, whereOf(w.sum), true)
		for at := range count {
			fewer := slices.Delete(letters(count), at, at+1)
			wantSwap(t, keepSieve(append(fewer, "q")...).sieve, whereOf(w.sum), false)
			wantSwap(t, keepSieve(letters(count)[at]).sieve, whereOf(w.sum), count == 1)
		}
	}
}

func TestMaySwapOfSvOrderAndSvWhere(t *testing.T) {
	for _, s := range sureTexts() {
		sure := sieveFrom(t, "where "+s)
		wantSwap(t, sieveFrom(t, "order a"), sure, true)
		wantSwap(t, sieveFrom(t, "order b down"), sure, true)
		for _, other := range sureTexts() {
			wantSwap(t, sure, sieveFrom(t, "where "+other), true)
		}
		for _, other := range unsureTexts() {
			wantSwap(t, sure, sieveFrom(t, "where "+other), false)
			wantSwap(t, sieveFrom(t, "where "+other), sure, false)
		}
	}
	for _, s := range unsureTexts() {
		wantSwap(t, sieveFrom(t, "order a"), sieveFrom(t, "where "+s), false)
		wantSwap(t, sieveFrom(t, "order a down"), sieveFrom(t, "where "+s), false)
		wantSwap(t, sieveFrom(t, "where "+s), sieveFrom(t, "where "+s), false)
	}
}

// Of no other Kind of s, and of no other Kind of t.
func TestMaySwapOfEachOtherKind(t *testing.T) {
	for _, one := range []string{"join u on yes", "join u on lacks a", "left u on yes", "left u on lacks a", "group", "group a", "limit 5 0", "limit 0 0", "limit 1000 1000", "once"} {
		for _, s := range slices.Concat(sureTexts(), unsureTexts()) {
			wantSwap(t, sieveFrom(t, one), sieveFrom(t, "where "+s), false)
		}
	}
	for _, s := range slices.Concat(sureTexts(), unsureTexts()) {
		wantSwap(t, fromSieve("t").sieve, sieveFrom(t, "where "+s), false)
	}
	ones := []string{"where lacks a", "where yes", "let x = b", "let x = 5", "keep a", "keep x", "order a", "order a down", "group", "group a", "join u on lacks a", "left u on lacks a", "limit 5 0", "once"}
	for _, one := range ones {
		for _, other := range ones[2:] {
			wantSwap(t, sieveFrom(t, one), sieveFrom(t, other), false)
		}
		wantSwap(t, sieveFrom(t, one), fromSieve("t").sieve, false)
	}
	wantSwap(t, fromSieve("t").sieve, fromSieve("t").sieve, false)
}

func TestMaySwapOfWrongSieves(t *testing.T) {
	rights := []impl.Sieve{whereOf(lacksSum("a", 2)), whereOf(sum{cellItem(truth(1))}), letSieve("x", nameSum("b")).sieve, keepSieve("a", "x").sieve, orderSieve("a", false).sieve, onceSieve().sieve}
	for _, wrong := range slices.Concat(wrongSieves(), oneWrong()) {
		for _, right := range rights {
			wantSwap(t, wrong, right, false)
			wantSwap(t, right, wrong, false)
		}
		wantSwap(t, wrong, wrong, false)
	}
	for _, l := range []sum{lacksSum("a", impl.MaxItems+1), {nameItem("and"), signItem(impl.ItLacks)}, {signItem(impl.ItLacks)}, {cellItem(number(1000000001)), signItem(impl.ItLacks)}, nil} {
		for _, right := range rights {
			wantSwap(t, right, whereOf(l), false)
			wantSwap(t, whereOf(l), right, false)
		}
	}
	sure := whereOf(lacksSum("a", 2))
	for _, s := range []impl.Sieve{
		{Kind: impl.SvOrder, Name: "a", Count: 1}, {Kind: impl.SvOrder, Name: "a", Names: []string{"a"}}, {Kind: impl.SvOrder}, {Kind: impl.SvKeep, Names: []string{"a", "a"}}, {Kind: impl.SvKeep, Names: letters(7)}, {Kind: impl.SvKeep, Names: []string{"a"}, Down: true},
		{Kind: impl.SvLet, Name: "none", Sum: sum{nameItem("b")}}, {Kind: impl.SvLet, Sum: sum{nameItem("b")}}, {Kind: impl.SvLet, Name: "x"}, {Kind: impl.SvWhere, Sum: sure.Sum, Skip: -1}, {Kind: impl.SvWhere, Sum: sure.Sum, Name: "a"},
	} {
		wantSwap(t, s, sure, false)
	}
}

// swapByTable is MaySwap of right Sieves by another way: what each Kind of s
// bars in an SvWhere behind it.
func swapByTable(s impl.Sieve, other impl.Sieve) bool {
	if other.Kind != impl.SvWhere {
		return false
	}
	names := namesIn(other.Sum)
	return map[int64]bool{
		impl.SvLet:   !overlap([]string{s.Name}, names) && !slices.ContainsFunc(s.Sum, func(x impl.Item) bool { return !plain(x) }),
		impl.SvKeep:  within(names, s.Names),
		impl.SvOrder: sureByItems(other.Sum),
		impl.SvWhere: s.Kind == impl.SvWhere && sureByItems(s.Sum) && sureByItems(other.Sum),
	}[s.Kind]
}

func TestMaySwapOfMixedSieves(t *testing.T) {
	sieves, d, swaps := mixedSieves(), &dice{21}, 0
	for _, s := range pushPieces() {
		sieves = append(sieves, slices.Repeat([]writtenSieve{{sieve: sieveFrom(t, s)}}, 300)...)
	}
	for range 20000 {
		one, other := sieves[d.below(len(sieves))].sieve, sieves[d.below(len(sieves))].sieve
		want := swapByTable(one, other)
		if wantSwap(t, one, other, want); want {
			swaps++
		}
	}
	if swaps < 400 {
		t.Errorf("%d of the pairs may swap: too few to tell", swaps)
	}
}

// pushPieces are Sieves whose names are those of the base of streams, most of
// which something is to be done with.
func pushPieces() []string {
	return []string{
		"where lacks a", "where lacks b", "where lacks lacks c", "where lacks x", "where lacks h", "where yes", "where no", "where none", "where a < 3", "where b < a or lacks a", "where h", "where 5", "where 7 / (b - 2) < 9", "where not c = 3", "where lacks lacks b",
		"let x = b", "let x = lacks a", "let y = 'q'", "let x = a + b", "let x = b / (a - 3)", "let a = c", "let i = none",
		"keep a", "keep b a", "keep c", "keep x a b", "keep h g", "keep c b a", "order a", "order b down", "order c", "order h", "order x down",
		"limit 3 0", "limit 2 1", "limit 9 1", "limit 1 2", "limit 0 0", "limit 0 2", "limit 1000 0", "limit 1000 501", "limit 600 499", "once", "group", "group a", "join u on c = a", "left u on c < a", "left u on lacks c",
	}
}

func wantPushed(t *testing.T, l ask, want ask) {
	t.Helper()
	if got := impl.Pushed(l); !slices.EqualFunc(got, want, sameSieve) {
		t.Errorf("Pushed %s: %s; want %s", shownAsk(l), shownAsk(got), shownAsk(want))
	}
}

func wantMerged(t *testing.T, l ask, want ask) {
	t.Helper()
	if got := impl.Merged(l); !slices.EqualFunc(got, want, sameSieve) {
		t.Errorf("Merged %s: %s; want %s", shownAsk(l), shownAsk(got), shownAsk(want))
	}
}

// shownAsk is ShowAsk, and of what is no question all that is in it.
func shownAsk(l ask) string {
	if s := impl.ShowAsk(l); s != "" {
		return s
	}
	return fmt.Sprintf("%+v", l)
}

// wantPushes: of each text behind from t that text; what comes out is pushed
// already, and means the same.
func wantPushes(t *testing.T, cases map[string]string) {
	t.Helper()
	for s, want := range cases {
		wantPushed(t, askFrom(t, "from t | "+s), askFrom(t, "from t | "+want))
		wantPushed(t, askFrom(t, "from t | "+want), askFrom(t, "from t | "+want))
		wantPromise13(t, streamBase(), askFrom(t, "from t | "+s))
	}
}

func wantMerges(t *testing.T, cases map[string]string) {
	t.Helper()
	for s, want := range cases {
		wantMerged(t, askFrom(t, "from t | "+s), askFrom(t, "from t | "+want))
		wantMerged(t, askFrom(t, "from t | "+want), askFrom(t, "from t | "+want))
		wantPromise13(t, streamBase(), askFrom(t, "from t | "+s))
	}
}

// stay has each of these texts with itself as its answer.
func stay(texts ...string) map[string]string {
	out := map[string]string{}
	for _, s := range texts {
		out[s] = s
	}
	return out
}

func TestPushedOfOneAndTwoSieves(t *testing.T) {
	wantPushed(t, ask{fromSieve("t").sieve}, ask{fromSieve("t").sieve})
	wantPushes(t, map[string]string{
		"let x = b | where a":                  "where a | let x = b",
		"let x = b | where a < 3":              "where a < 3 | let x = b",
		"let x = lacks a | where 7 / b < 2":    "where 7 / b < 2 | let x = lacks a",
		"keep a | where a < 3":                 "where a < 3 | keep a",
		"keep b a | where a < b":               "where a < b | keep b a",
		"keep a | where 5":                     "where 5 | keep a",
		"order a | where lacks a":              "where lacks a | order a",
		"order b down | where lacks a":         "where lacks a | order b down",
		"order a | where none":                 "where none | order a",
		"let x = b | order a | where lacks a":  "where lacks a | let x = b | order a",
		"let x = b | where lacks x | order a":  "let x = b | where lacks x | order a",
		"let x = b | once | where lacks a":     "let x = b | once | where lacks a",
		"once | let x = b | where lacks a":     "once | where lacks a | let x = b",
		"let x = b | where lacks a | once":     "where lacks a | let x = b | once",
		"order a | order b | where yes":        "where yes | order a | order b",
		"order a | limit 2 0 | where lacks a":  "order a | limit 2 0 | where lacks a",
		"limit 2 0 | order a | where lacks a":  "limit 2 0 | where lacks a | order a",
		"keep a | let x = a | where a < 3":     "where a < 3 | keep a | let x = a",
		"let x = a | keep x a | where a < 3":   "where a < 3 | let x = a | keep x a",
		"let x = a | keep x a | where x < 3":   "let x = a | where x < 3 | keep x a",
		"let x = a | keep x | where x < 3":     "let x = a | where x < 3 | keep x",
		"keep a | order a | where a < 3":       "keep a | order a | where a < 3",
		"order a | keep a | where a < 3":       "order a | where a < 3 | keep a",
		"let x = a + b | keep a | where a < 3": "let x = a + b | where a < 3 | keep a",
	})
	wantPushes(t, stay(
		"where lacks a", "let x = b", "keep a", "order a", "once", "group", "limit 5 0",
		"where lacks a | let x = b", "where lacks a | keep a", "where lacks a | order a", "where lacks a | where lacks b", "where a < 3 | where lacks a", "where lacks b | where lacks a",
		"let x = b | where x", "let x = a + b | where lacks a", "keep a | where lacks b", "keep b | where a < b", "order a | where a < 3", "order a | where a", "order a down | where 5",
		"once | where lacks a", "group | where lacks count", "group a | where lacks a", "limit 5 0 | where lacks a", "limit 0 0 | where no", "join u on yes | where lacks a", "left u on yes | where lacks a", "left u on yes | where lacks c",
		"let x = b | keep a", "order a | keep a", "keep a | order a", "let x = b | order a", "once | once",
	))
}

func TestPushedOfSeveralSieves(t *testing.T) {
	wantPushes(t, map[string]string{
		"let x = b | order a | let y = a | keep a b x | where lacks a":                                            "where lacks a | let x = b | order a | let y = a | keep a b x",
		"let x = b | let y = a | let i = 5 | order a | order b down | order x | where lacks a":                    "where lacks a | let x = b | let y = a | let i = 5 | order a | order b down | order x",
		"order a | let x = b | let y = x | keep x | once | order x | where lacks x":                               "order a | let x = b | let y = x | keep x | once | where lacks x | order x",
		"order a | where lacks a | where lacks b":                                                                 "where lacks a | where lacks b | order a",
		"order a | where lacks b | where lacks a":                                                                 "where lacks b | where lacks a | order a",
		"order a | where lacks a | order b | where lacks b | keep a b | where yes":                                "where lacks a | where lacks b | where yes | order a | order b | keep a b",
		"let x = b | where a < 3 | where b < 9 | where lacks a | where no":                                        "where a < 3 | where b < 9 | where lacks a | where no | let x = b",
		"order a | where a < 3 | where lacks a":                                                                   "order a | where a < 3 | where lacks a",
		"let x = b | where x < 3 | where lacks a":                                                                 "let x = b | where x < 3 | where lacks a",
		"let x = b | where x < 3 | let y = a | where lacks a":                                                     "let x = b | where x < 3 | where lacks a | let y = a",
		"let x = b | where lacks a | where x < 3 | let y = a | where lacks a":                                     "where lacks a | let x = b | where x < 3 | where lacks a | let y = a",
		"keep b a | order a | where lacks a | order b | where b < 5":                                              "where lacks a | keep b a | order a | order b | where b < 5",
		"keep b a | order a | where b < 5 | where lacks a":                                                        "keep b a | order a | where b < 5 | where lacks a",
		"let x = a | let y = b | where lacks x | where lacks y | where lacks a":                                   "let x = a | where lacks x | let y = b | where lacks y | where lacks a",
		"let x = a | where a < 3 | let y = b | where b < 3 | let i = 5 | where lacks x | order x":                 "where a < 3 | where b < 3 | let x = a | where lacks x | let y = b | let i = 5 | order x",
		"group a | order a | where lacks a | where lacks count":                                                   "group a | where lacks a | where lacks count | order a",
		"join u on yes | order a | where lacks c | left m on no | order g | where lacks g":                        "join u on yes | where lacks c | order a | left m on no | where lacks g | order g",
		"order a | limit 3 0 | order b | where lacks a | limit 2 0 | keep a | where a < 2":                        "order a | limit 3 0 | where lacks a | order b | limit 2 0 | where a < 2 | keep a",
		"order a | keep a | let x = a | where lacks a | where a < 3 | where lacks x | where 1 / 0 = 1":            "where lacks a | order a | where a < 3 | keep a | let x = a | where lacks x | where 1 / 0 = 1",
		"once | let x = b / (a - 3) | order x | where lacks a | where lacks b":                                    "once | let x = b / (a - 3) | where lacks a | where lacks b | order x",
		"where a < 3 | order a | where lacks b | order b | where lacks lacks a | let x = none | where yes":        "where a < 3 | where lacks b | where lacks lacks a | where yes | order a | order b | let x = none",
		"order a | order b | order a | order b | order a | order b | where lacks a":                               "where lacks a | order a | order b | order a | order b | order a | order b",
		"order a | where lacks a | where lacks b | where yes | where no | where none | where lacks lacks lacks a": "where lacks a | where lacks b | where yes | where no | where none | where lacks lacks lacks a | order a",
	})
}

func TestMergedOfTwoSvWheres(t *testing.T) {
	wantMerged(t, ask{fromSieve("t").sieve}, ask{fromSieve("t").sieve})
	for _, one := range sureTexts() {
		for _, other := range sureTexts() {
			wantMerges(t, map[string]string{"where " + one + " | where " + other: "where (" + one + ") and (" + other + ")"})
		}
		for _, other := range unsureTexts() {
			wantMerges(t, stay("where "+one+" | where "+other, "where "+other+" | where "+one, "where "+other+" | where "+other))
		}
		for _, other := range []string{"let x = b", "keep a b", "order a", "once", "join u on yes", "left u on yes", "limit 5 0", "group a"} {
			wantMerges(t, stay("where "+one, other, "where "+one+" | "+other, other+" | where "+one, "where "+one+" | "+other+" | where "+one))
		}
	}
}

// Items of both Sums and ItBoth: just MaxItems in all, and one more.
func TestMergedOfSvWheresAtMaxItems(t *testing.T) {
	from := fromSieve("t").sieve
	for size := 2; size <= impl.MaxItems; size++ {
		one := lacksSum("a", size)
		for others := 2; others <= impl.MaxItems; others++ {
			other := lacksSum("b", others)
			l, want := ask{from, whereOf(one), whereOf(other)}, ask{from, whereOf(one), whereOf(other)}
			if size+others+1 <= impl.MaxItems {
				want = ask{from, whereOf(slices.Concat(one, other, sum{signItem(impl.ItBoth)}))}
			}
			wantMerged(t, l, want)
			wantPromise13(t, streamBase(), l)
		}
	}
	yes, no := whereOf(sum{cellItem(truth(1))}), whereOf(sum{cellItem(truth(0))})
	for size := 36; size <= impl.MaxItems; size++ {
		long := whereOf(lacksSum("a", size))
		for _, l := range []ask{{from, long, yes}, {from, no, long}} {
			want := l
			if size+2 <= impl.MaxItems {
				want = ask{from, whereOf(slices.Concat(l[1].Sum, l[2].Sum, sum{signItem(impl.ItBoth)}))}
			}
			wantMerged(t, l, want)
		}
	}
}

func TestMergedOfTwoSvLimits(t *testing.T) {
	wantMerges(t, map[string]string{
		"limit 5 1 | limit 2 1":        "limit 2 2",
		"limit 5 0 | limit 2 0":        "limit 2 0",
		"limit 2 0 | limit 5 0":        "limit 2 0",
		"limit 5 0 | limit 5 0":        "limit 5 0",
		"limit 5 3 | limit 9 4":        "limit 1 7",
		"limit 5 3 | limit 1 4":        "limit 1 7",
		"limit 5 3 | limit 0 4":        "limit 0 7",
		"limit 5 0 | limit 0 0":        "limit 0 0",
		"limit 1 0 | limit 1 0":        "limit 1 0",
		"limit 1 9 | limit 1000 0":     "limit 1 9",
		"limit 5 0 | limit 2 3":        "limit 2 3",
		"limit 5 0 | limit 3 3":        "limit 2 3",
		"limit 5 0 | limit 1 3":        "limit 1 3",
		"limit 1000 0 | limit 5 999":   "limit 1 999",
		"limit 1000 500 | limit 5 500": "limit 5 1000",
		"limit 501 500 | limit 5 500":  "limit 1 1000",
		"limit 1000 1000 | limit 7 0":  "limit 7 1000",
		"limit 1000 1 | limit 7 999":   "limit 1 1000",
		"limit 1000 999 | limit 0 1":   "limit 0 1000",
	})
	wantMerges(t, stay(
		"limit 1 0 | limit 5 2", "limit 5 0 | limit 2 5", "limit 5 0 | limit 2 6", "limit 5 0 | limit 0 5", "limit 0 0 | limit 0 0", "limit 0 0 | limit 5 0", "limit 0 5 | limit 5 0", "limit 1 0 | limit 1 1",
		"limit 1000 500 | limit 5 501", "limit 1000 501 | limit 5 500", "limit 1000 1000 | limit 5 1", "limit 1000 2 | limit 5 999", "limit 1000 0 | limit 5 1000", "limit 1000 1000 | limit 1000 1000", "limit 1000 1000 | limit 0 1",
		"limit 5 0 | once | limit 5 0", "limit 5 0 | order a | limit 2 0", "limit 5 0 | where lacks a | limit 2 0", "limit 5 0 | let x = b | limit 2 0", "limit 5 0 | keep a | limit 2 0",
	))
}

// oneLimit is two SvLimits as one by another way: by the places of those that
// are let on.
func oneLimit(s impl.Sieve, other impl.Sieve) (impl.Sieve, bool) {
	first, end := s.Skip+other.Skip, min(s.Skip+s.Count, s.Skip+other.Skip+other.Count)
	return limitSieve(end-first, first).sieve, s.Skip+s.Count > first && first <= 1000
}

func TestMergedOfEachTwoSvLimits(t *testing.T) {
	from, numbers := fromSieve("t").sieve, []int64{0, 1, 2, 3, 4, 499, 500, 501, 502, 998, 999, 1000}
	for _, count := range numbers {
		for _, skip := range numbers {
			for _, counts := range numbers {
				for _, skips := range numbers {
					l := ask{from, limitSieve(count, skip).sieve, limitSieve(counts, skips).sieve}
					want := l
					if one, can := oneLimit(l[1], l[2]); can {
						want = ask{from, one}
					}
					wantMerged(t, l, want)
				}
			}
		}
	}
}

// What two SvLimits make of rows and a Fault is what one makes of them, where
// they are one.
func TestMergedSvLimitsBesideEachFault(t *testing.T) {
	for n := range 6 * 6 * 6 * 6 {
		one, other := limitSieve(int64(n%6), int64(n/6%6)).sieve, limitSieve(int64(n/36%6), int64(n/216)).sieve
		l := impl.Merged(ask{fromSieve("t").sieve, one, other})
		for rows := range 13 {
			in := ending(numbersUpTo(rows), int64(rows+n)%5)
			want := impl.Through(nil, []string{"a"}, other, impl.Through(nil, []string{"a"}, one, in))
			got := in
			for _, s := range l[1:] {
				got = impl.Through(nil, []string{"a"}, s, got)
			}
			wantStream(t, fmt.Sprintf("%s of %s", shownAsk(l), shownStream(in)), want, got)
		}
	}
}

// What was made one is asked again: with what stands ahead of it and with what
// stands behind it, the first two that can be one first.
func TestMergedOfSeveralSieves(t *testing.T) {
	wantMerges(t, map[string]string{
		"where lacks a | where lacks b | limit 5 1 | limit 2 1":                                                "where lacks a and lacks b | limit 2 2",
		"where lacks a | where lacks b | where yes":                                                            "where lacks a and lacks b | where yes",
		"where yes | where lacks a | where lacks b | where none":                                               "where yes and lacks a | where lacks b and none",
		"where yes | where no | where none | where lacks a | where lacks b":                                    "where yes and no | where none and lacks a | where lacks b",
		"where yes | where no | where none | where lacks a | where lacks b | where lacks 5 | where lacks none": "where yes and no | where none and lacks a | where lacks b and lacks 5 | where lacks none",
		"where a < 3 | where lacks a | where lacks b":                                                          "where a < 3 | where lacks a and lacks b",
		"where a | where lacks a | where b | where lacks a | where yes":                                        "where a | where lacks a | where b | where lacks a and yes",
		"where lacks a and lacks b | where lacks a | where yes":                                                "where lacks a and lacks b | where lacks a and yes",
		"limit 9 1 | limit 7 1 | limit 5 1":                                                                    "limit 5 3",
		"limit 9 0 | limit 8 0 | limit 7 0 | limit 6 0 | limit 5 0 | limit 4 0 | limit 3 0":                    "limit 3 0",
		"limit 9 1 | limit 8 1 | limit 7 1 | limit 6 1 | limit 5 1 | limit 4 1 | limit 3 1":                    "limit 3 7",
		"limit 5 3 | limit 2 4 | limit 1 1":                                                                    "limit 1 7 | limit 1 1",
		"limit 1 0 | limit 5 2 | limit 2 1":                                                                    "limit 1 0 | limit 2 3",
		"limit 1 0 | limit 9 2 | limit 1 0 | limit 3 1 | limit 5 0":                                            "limit 1 0 | limit 1 2 | limit 3 1",
		"limit 1000 400 | limit 900 400 | limit 500 400":                                                       "limit 600 800 | limit 500 400",
		"limit 1000 400 | limit 900 400 | limit 500 200":                                                       "limit 400 1000",
		"limit 1000 400 | limit 900 400 | limit 500 201":                                                       "limit 600 800 | limit 500 201",
		"limit 1000 600 | limit 900 500 | limit 500 400":                                                       "limit 1000 600 | limit 500 900",
		"once | limit 5 0 | limit 3 0 | once | where yes | where no | once":                                    "once | limit 3 0 | once | where yes and no | once",
		"order a | limit 5 0 | limit 3 0 | where lacks a | limit 5 0 | limit 3 1 | where no":                   "order a | limit 3 0 | where lacks a | limit 3 1 | where no",
		"where lacks a | where lacks b | limit 1 0 | limit 2 1 | where lacks a | where lacks b | once":         "where lacks a and lacks b | limit 1 0 | limit 2 1 | where lacks a and lacks b | once",
		"group a | where lacks a | where lacks count | order a | limit 7 0 | limit 9 2":                        "group a | where lacks a and lacks count | order a | limit 5 2",
		"left u on c = a | where lacks c | where lacks a | limit 9 0 | limit 1 0 | keep b":                     "left u on c = a | where lacks c and lacks a | limit 1 0 | keep b",
		"let x = b / (a - 3) | limit 9 0 | limit 2 0":                                                          "let x = b / (a - 3) | limit 2 0",
		"let x = b / (a - 3) | limit 1 0 | limit 2 0":                                                          "let x = b / (a - 3) | limit 1 0",
		"let x = b / (a - 3) | limit 2 0 | limit 2 1 | where lacks a | where no":                               "let x = b / (a - 3) | limit 1 1 | where lacks a and no",
	})
}

// Of three SvWheres the first two are one where they are short enough, else
// the last two.
func TestMergedOfThreeLongSvWheres(t *testing.T) {
	from, both := fromSieve("t").sieve, sum{signItem(impl.ItBoth)}
	one, other, last := lacksSum("a", 30), lacksSum("b", 9), lacksSum("a", 25)
	long := append(slices.Clone(other), signItem(impl.ItLacks))
	wantMerged(t, ask{from, whereOf(one), whereOf(other), whereOf(last)}, ask{from, whereOf(slices.Concat(one, other, both)), whereOf(last)})
	wantMerged(t, ask{from, whereOf(one), whereOf(long), whereOf(last)}, ask{from, whereOf(one), whereOf(slices.Concat(long, last, both))})
	wantMerged(t, ask{from, whereOf(one), whereOf(last), whereOf(one)}, ask{from, whereOf(one), whereOf(last), whereOf(one)})
}

func TestMergedOfPushed(t *testing.T) {
	for s, want := range map[string]string{
		"order a | where a < 3 | limit 1 0 | limit 5 2":                        "order a | where a < 3 | limit 1 0 | limit 5 2",
		"order a | where lacks a | order b | where lacks b":                    "where lacks a and lacks b | order a | order b",
		"order a | where lacks b | keep a b | where lacks a":                   "where lacks b and lacks a | order a | keep a b",
		"where lacks a | let x = b | where lacks b | where lacks x":            "where lacks a and lacks b | let x = b | where lacks x",
		"limit 5 0 | order a | where yes | limit 5 0":                          "limit 5 0 | where yes | order a | limit 5 0",
		"let x = b | where yes | where a < 3 | where no | where lacks a":       "where yes | where a < 3 | where no and lacks a | let x = b",
		"let x = b | where lacks x | order x | where lacks a | where yes":      "let x = b | where lacks x and lacks a | where yes | order x",
		"order a | where lacks a | limit 9 1 | limit 4 1 | order b | where no": "where lacks a | order a | limit 4 2 | where no | order b",
	} {
		l := askFrom(t, "from t | "+s)
		if got := impl.Merged(impl.Pushed(l)); !slices.EqualFunc(got, askFrom(t, "from t | "+want), sameSieve) {
			t.Errorf("Merged of Pushed %s: %s; want %s", s, shownAsk(got), want)
		}
		wantPromise13(t, streamBase(), l)
	}
}

// pushedByPlaces is Pushed of a question by another way: each Sieve is put in
// its place once, behind all that it may not go ahead of.
func pushedByPlaces(l ask) ask {
	out := ask{}
	for _, s := range l {
		at := len(out)
		for at > 0 && out[at-1].Kind != impl.SvWhere && swapByTable(out[at-1], s) {
			at--
		}
		out = slices.Insert(out, at, s)
	}
	return out
}

// mergedByPile is Merged of a question by another way: each Sieve is laid upon
// those ahead of it, and is one with the last one as often as it can be.
func mergedByPile(l ask) ask {
	pile := ask{}
	for _, s := range l {
		for len(pile) > 0 {
			one, can := oneByPlaces(pile[len(pile)-1], s)
			if !can {
				break
			}
			s, pile = one, pile[:len(pile)-1]
		}
		pile = append(pile, s)
	}
	return pile
}

func oneByPlaces(s impl.Sieve, other impl.Sieve) (impl.Sieve, bool) {
	if s.Kind == impl.SvLimit && other.Kind == impl.SvLimit {
		return oneLimit(s, other)
	}
	if s.Kind != impl.SvWhere || other.Kind != impl.SvWhere || !sureByItems(s.Sum) || !sureByItems(other.Sum) {
		return impl.Sieve{}, false
	}
	one := whereOf(pairSum(writtenSum{sum: s.Sum}, "and", writtenSum{sum: other.Sum}).sum)
	return one, len(one.Sum) <= 40
}

// wantPromise13: Pushed, Merged, and both are what another way says, are
// questions, are not changed any more, and mean the same.
func wantPromise13(t *testing.T, b base, l ask) stream {
	t.Helper()
	wantPushed(t, l, pushedByPlaces(l))
	wantMerged(t, l, mergedByPile(l))
	pushed, merged := impl.Pushed(l), impl.Merged(l)
	wantMerged(t, pushed, mergedByPile(pushed))
	wantPushed(t, merged, pushedByPlaces(merged))
	wantPushed(t, pushed, pushed)
	wantMerged(t, merged, merged)
	want := impl.Meant(b, l)
	columns, code := impl.ShapeOf(b, l)
	for _, x := range []ask{pushed, merged, impl.Merged(pushed), impl.Pushed(merged), impl.Merged(impl.Pushed(merged))} {
		wantStream(t, fmt.Sprintf("Meant %s, once %s", shownAsk(x), shownAsk(l)), want, impl.Meant(b, x))
		shown, told := impl.ShapeOf(b, x)
		if !impl.AskOk(x) || !slices.Equal(shown, columns) || (told == impl.ShOk) != (code == impl.ShOk) {
			t.Errorf("%s, once %s: AskOk %v, the columns %q; want %q", shownAsk(x), shownAsk(l), impl.AskOk(x), shown, columns)
		}
	}
	return want
}

func pushSieves(t *testing.T) ask {
	out := ask{}
	for _, piece := range pushPieces() {
		out = append(out, sieveFrom(t, piece))
	}
	return out
}

func TestPromise13OfAllShortQuestions(t *testing.T) {
	for _, from := range []string{"e", "m", "t", "u", "x"} {
		for _, l := range allLists(2, pushSieves(t)...) {
			wantPromise13(t, streamBase(), append(ask{fromSieve(from).sieve}, l...))
		}
	}
}

func TestPromise13OfThreeSieves(t *testing.T) {
	sieves := ask{}
	for _, piece := range []string{"where lacks a", "where yes", "where a < 3", "where 7 / (b - 2) < 9", "let x = b", "let x = b / (a - 3)", "keep b a", "order a", "order b down", "limit 2 0", "limit 2 1", "limit 0 0", "once"} {
		sieves = append(sieves, sieveFrom(t, piece))
	}
	for _, l := range allLists(3, sieves...) {
		wantPromise13(t, streamBase(), append(ask{fromSieve("t").sieve}, l...))
	}
}

// A countedAsk tells how often there was something to tell by.
type countedAsk struct {
	pushed, merged, both int
	ends                 map[int64]int
}

func (c *countedAsk) count(l ask, out stream) {
	if len(out.Rows) < 2 && out.Fault == impl.FtNone || out.Fault != impl.FtNone && len(l) < 3 {
		return
	}
	moved, fewer := !slices.EqualFunc(impl.Pushed(l), l, sameSieve), len(impl.Merged(impl.Pushed(l))) < len(l)
	if moved {
		c.pushed++
	}
	if fewer {
		c.merged++
	}
	if moved && fewer {
		c.both++
	}
	if moved || fewer {
		c.ends[out.Fault]++
	}
}

func TestPromise13OfLongQuestions(t *testing.T) {
	d, b, told := &dice{22}, longBase(), countedAsk{ends: map[int64]int{}}
	sieves := slices.DeleteFunc(pushSieves(t), func(s impl.Sieve) bool {
		return slices.Contains([]string{"where no", "where none", "where 5", "group", "limit 0 0", "limit 0 2", "limit 1000 501"}, strings.TrimPrefix(impl.ShowAsk(ask{fromSieve("t").sieve, s}), "from t | "))
	})
	for n := range 6000 {
		l := luckyAsk(d, b, sieves, 1+n%impl.MaxSieves)
		told.count(l, wantPromise13(t, b, l))
	}
	if told.pushed < 300 || told.merged < 300 || told.both < 80 {
		t.Errorf("with rows or a fault %d are pushed, %d are merged, %d both: too few to tell", told.pushed, told.merged, told.both)
	}
	for _, fault := range []int64{impl.FtNone, impl.FtZero, impl.FtKind} {
		if told.ends[fault] < 40 {
			t.Errorf("the fault %d comes %d times: too few to tell", fault, told.ends[fault])
		}
	}
}

// Of a Table that is as long as may be, and beside MaxMade rows.
func TestPromise13AtMaxMade(t *testing.T) {
	b := base{{Name: "t", Columns: []string{"a", "b"}, Rows: mixedTable(2, 60).Rows}, {Name: "u", Columns: []string{"c"}, Rows: numbersUpTo(60)}}
	for _, s := range []string{
		"join u on yes | order c | where lacks a", "join u on yes | let x = c | where lacks lacks a", "join u on yes | keep c a | where c < 2", "join u on yes | where lacks lacks c | where lacks a", "join u on yes | limit 400 90 | limit 20 7",
		"join u on yes | limit 600 90 | limit 500 7", "join u on yes | limit 500 0 | limit 500 0", "join u on yes | limit 500 0 | limit 500 499", "join u on yes | limit 501 0 | limit 500 500", "left u on no | keep c | where lacks c", "join u on yes | let x = a | where 6 / c < 7 | order x | where lacks x",
	} {
		wantPromise13(t, b, askFrom(t, "from t | "+s))
	}
}

// wantSwapped: where the two may swap it is one whichever goes ahead.
func wantSwapped(t *testing.T, columns []string, s impl.Sieve, other impl.Sieve, in stream) {
	t.Helper()
	two := func(one impl.Sieve, next impl.Sieve) stream {
		between, _ := impl.StepShape(streamBase(), columns, one)
		return impl.Through(streamBase(), between, next, impl.Through(streamBase(), columns, one, in))
	}
	wantStream(t, fmt.Sprintf("%+v ahead of %+v of %s", other, s, shownStream(in)), two(s, other), two(other, s))
}

func TestPromise13OfTwoThatMaySwap(t *testing.T) {
	d, swaps := &dice{23}, map[int64]int{}
	for _, columns := range [][]string{{"a", "b"}, {"b", "a", "c"}, {"h", "a", "x"}} {
		for _, s := range pushSieves(t) {
			for _, other := range pushSieves(t) {
				if !impl.MaySwap(s, other) {
					continue
				}
				swaps[s.Kind]++
				for count := range 9 {
					in := mixedStream(d, len(columns), count)
					in.Fault = int64(d.below(3) * d.below(3))
					wantSwapped(t, columns, s, other, in)
				}
			}
		}
	}
	for _, kind := range []int64{impl.SvLet, impl.SvKeep, impl.SvOrder, impl.SvWhere} {
		if swaps[kind] < 20 {
			t.Errorf("the kind %d may swap %d times: too few to tell", kind, swaps[kind])
		}
	}
}

// wantNone: of what is no question both answer nothing.
func wantNone(t *testing.T, l ask) {
	t.Helper()
	wantPushed(t, l, nil)
	wantMerged(t, l, nil)
}

func TestPushedAndMergedOfWhatIsNoQuestion(t *testing.T) {
	from, order, sure, limit := fromSieve("t").sieve, orderSieve("a", false).sieve, whereOf(lacksSum("a", 2)), limitSieve(5, 0).sieve
	for _, l := range []ask{nil, {}, {order}, {order, sure}, {sure, sure}, {limit, limit}, {order, sure, from}, {from, from}, {from, order, sure, from}, {from, sure, sure, from}, {{}}, {{Kind: impl.SvFrom}}, {fromSieve("and").sieve, order, sure}} {
		wantNone(t, l)
	}
	for _, wrong := range slices.Concat(wrongSieves(), oneWrong()) {
		wantNone(t, ask{wrong, from})
		wantNone(t, ask{from, wrong})
		wantNone(t, ask{from, order, sure, wrong})
		wantNone(t, ask{from, wrong, order, sure, sure})
		wantNone(t, ask{from, limit, limit, wrong, sure})
	}
	for _, s := range (ask{order, sure, limit, onceSieve().sieve}) {
		wantNone(t, append(ask{from}, slices.Repeat(ask{s}, impl.MaxSieves)...))
		wantNone(t, append(ask{from, order, sure, sure, limit, limit}, slices.Repeat(ask{s}, impl.MaxSieves)...))
	}
	for _, n := range []int64{-1, 1001, math.MaxInt64, math.MinInt64} {
		for _, wrong := range []impl.Sieve{limitSieve(n, 0).sieve, limitSieve(0, n).sieve, limitSieve(n, n).sieve, limitSieve(1000, n).sieve} {
			wantNone(t, ask{from, wrong, limit})
			wantNone(t, ask{from, limit, wrong})
			wantNone(t, ask{from, wrong, wrong})
		}
	}
}

// At MaxSieves both do what they do.
func TestPushedAndMergedOfMaxSieves(t *testing.T) {
	from, order, sure, limit := fromSieve("t").sieve, orderSieve("a", false).sieve, whereOf(lacksSum("a", 2)), limitSieve(5, 0).sieve
	orders := slices.Repeat(ask{order}, impl.MaxSieves-2)
	wantPushed(t, slices.Concat(ask{from}, orders, ask{sure}), slices.Concat(ask{from, sure}, orders))
	wantMerged(t, slices.Concat(ask{from}, slices.Repeat(ask{limit}, impl.MaxSieves-1)), ask{from, limit})
	wheres := slices.Repeat(ask{sure}, impl.MaxSieves-2)
	wantPushed(t, slices.Concat(ask{from, order}, wheres), slices.Concat(ask{from}, wheres, ask{order}))
}

// wantNewPush: all four leave what they are given, with its spare room, as it
// is, and no list of their answers shares memory with any other one.
func wantNewPush(t *testing.T, l ask) {
	t.Helper()
	name, before := shownAsk(l), wholeAsk(l)
	answers := []ask{impl.Pushed(l), impl.Merged(l), impl.Pushed(l), impl.Merged(l), impl.Merged(impl.Pushed(l))}
	for i := range l {
		impl.IsSure(l[i].Sum)
		impl.MaySwap(l[max(i, 1)-1], l[i])
	}
	spans, want := []span{}, []ask{}
	for i, x := range answers {
		spans = append(spans, askSpans(fmt.Sprint("answer ", i), x)...)
		want = append(want, copiedAsk(x))
	}
	wantApart(t, name, spans, askSpans("the question", l))
	if !slices.EqualFunc(before, wholeAsk(l), sameSieve) {
		t.Errorf("%s: one of the four writes into what it was given", name)
	}
	for i, x := range answers {
		scribbleAsk(x)
		for k := i + 1; k < len(answers); k++ {
			if !slices.EqualFunc(answers[k], want[k], sameSieve) {
				t.Errorf("%s: the answers %d and %d share memory", name, i, k)
			}
		}
		if !slices.EqualFunc(before, wholeAsk(l), sameSieve) {
			t.Errorf("%s: answer %d shares memory with what was given", name, i)
		}
	}
	wantPushed(t, l, want[0])
	wantMerged(t, l, want[1])
}

func TestPushedAndMergedAreNewMemory(t *testing.T) {
	d, sieves := &dice{24}, pushSieves(t)
	for _, l := range allLists(2, sieves...) {
		l = append(ask{fromSieve("t").sieve}, l...)
		wantNewPush(t, l)
		wantNewPush(t, roomyAsk(l))
	}
	for n := range 1500 {
		l := ask{fromSieve("t").sieve}
		for len(l) < 3+n%(impl.MaxSieves-1) {
			l = append(l, sieves[d.below(len(sieves))])
		}
		wantNewPush(t, roomyAsk(l))
		wantNewPush(t, slices.Clip(l))
	}
	for _, l := range someAsks() {
		wantNewPush(t, roomyAsk(l))
	}
}

// What shares memory where it is given does not in the answers.
func TestPushedAndMergedOfListsThatShareMemory(t *testing.T) {
	names, items := []string{"a", "b", "c"}, sum{nameItem("a"), signItem(impl.ItLacks), nameItem("b"), signItem(impl.ItLacks), signItem(impl.ItBoth), signItem(impl.ItPlus)}
	from, keep, sure, other := fromSieve("t").sieve, keepSieve(names[:2]...).sieve, whereOf(items[:2]), whereOf(items[2:4])
	for _, l := range []ask{
		{from, keep, keep, sure, sure}, {from, sure, sure, sure, sure}, {from, sure, other}, {from, other, sure, sure, keep, keepSieve(names[1:]...).sieve}, {from, keep, sure, other, keep, sure},
		{from, sure, letSieve("x", writtenSum{sum: items[:2]}).sieve, sure, orderSieve("a", true).sieve, sure}, {from, whereOf(items[:5]), sure, sure},
	} {
		wantNewPush(t, l)
		wantPromise13(t, streamBase(), l)
	}
	l := ask{from, orderSieve("a", false).sieve, sure, other, keep, limitSieve(5, 1).sieve, limitSieve(2, 1).sieve, onceSieve().sieve}
	for count := range len(l) + 1 {
		wantNewPush(t, l[:count])
		wantNewPush(t, l[:count:count])
	}
	if !slices.Equal(names, letters(3)) || !slices.Equal(items, sum{nameItem("a"), signItem(impl.ItLacks), nameItem("b"), signItem(impl.ItLacks), signItem(impl.ItBoth), signItem(impl.ItPlus)}) {
		t.Errorf("one of the four writes into %q or %+v", names, items)
	}
}

func TestIsSureAndMaySwapLeaveTheirArguments(t *testing.T) {
	for _, s := range slices.Concat(wrongSieves(), pushSieves(t)) {
		for _, other := range (ask{whereOf(lacksSum("a", 3)), s, keepSieve("a", "b").sieve}) {
			given := roomyAsk(ask{s, other})
			before := wholeAsk(given)
			sure, swap := impl.IsSure(given[0].Sum), impl.MaySwap(given[0], given[1])
			if sure != impl.IsSure(given[0].Sum) || swap != impl.MaySwap(given[0], given[1]) || !slices.EqualFunc(before, wholeAsk(given), sameSieve) {
				t.Errorf("one of the two writes into %+v or %+v", s, other)
			}
		}
	}
}
