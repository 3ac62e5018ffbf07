package tests

import (
	"fmt"
	"maps"
	"math"
	"slices"
	"strconv"
	"strings"
	"testing"

	"loop.example/g00536/impl"
)

type (
	fast    = impl.Fast
	fastOp  = impl.FastOp
	fastOut = impl.FastOut
)

func fastWith(ops []fastOp, outs []fastOut) fast { return fast{Ops: ops, Outs: outs} }

func opWith(kind int64, to int64, a int64, b int64) fastOp {
	return fastOp{Kind: kind, To: to, A: a, B: b}
}

func outWith(column int64, register int64, truth bool) fastOut {
	return fastOut{Column: column, Register: register, Truth: truth}
}

// opForms tells of each Kind its word, and what To, A and B are: w a register
// that is written, r one that is read, c a column, n a number, - nothing.
func opForms() map[int64][2]string {
	return map[int64][2]string{
		impl.FoColumn: {"column", "wc-"}, impl.FoNumber: {"number", "wn-"},
		impl.FoPlus: {"plus", "wrr"}, impl.FoLess: {"less", "wrr"}, impl.FoTimes: {"times", "wrr"}, impl.FoBy: {"by", "wrr"},
		impl.FoSame: {"same", "wrr"}, impl.FoBelow: {"below", "wrr"}, impl.FoBoth: {"both", "wrr"}, impl.FoEither: {"either", "wrr"},
		impl.FoNot: {"not", "wr-"}, impl.FoTest: {"test", "-r-"},
	}
}

func opFields(x fastOp) []int64 { return []int64{x.To, x.A, x.B} }

// fastFrom reads what ShowFast shows.
func fastFrom(t *testing.T, s string) fast {
	t.Helper()
	f := fast{}
	for piece := range strings.SplitSeq(s, "; ") {
		words := strings.Fields(piece)
		if len(words) == 0 {
			continue
		}
		numbers := []int64{}
		for _, word := range words[1:] {
			n, err := strconv.ParseInt(word, 10, 64)
			if err != nil {
				t.Fatalf("%q has no number", piece)
			}
			numbers = append(numbers, n)
		}
		switch words[0] {
		case "cell":
			f.Outs = append(f.Outs, fastOut{Column: numbers[0], Register: -1})
		case "out", "truth":
			f.Outs = append(f.Outs, fastOut{Column: -1, Register: numbers[0], Truth: words[0] == "truth"})
		default:
			f.Ops = append(f.Ops, opFrom(t, words[0], numbers))
		}
	}
	return f
}

func opFrom(t *testing.T, word string, numbers []int64) fastOp {
	t.Helper()
	for kind, form := range opForms() {
		if form[0] != word {
			continue
		}
		fields := [3]int64{}
		for i, has := range form[1] {
			if has != '-' {
				fields[i], numbers = numbers[0], numbers[1:]
			}
		}
		return fastOp{Kind: kind, To: fields[0], A: fields[1], B: fields[2]}
	}
	t.Fatalf("%q is no word of an Op", word)
	return fastOp{}
}

// shownFast is what ShowFast shows, by another way; it takes right Kinds alone.
func shownFast(f fast) string {
	pieces := []string{}
	for _, x := range f.Ops {
		form := opForms()[x.Kind]
		piece := form[0]
		for i, has := range form[1] {
			if has != '-' {
				piece += fmt.Sprintf(" %d", opFields(x)[i])
			}
		}
		pieces = append(pieces, piece)
	}
	for _, o := range f.Outs {
		word := map[bool]string{true: "truth", false: "out"}[o.Truth]
		piece := fmt.Sprintf("%s %d", word, o.Register)
		if o.Register == -1 {
			piece = fmt.Sprintf("cell %d", o.Column)
		}
		pieces = append(pieces, piece)
	}
	return strings.Join(pieces, "; ")
}

// fastFits is what FastOk answers, by another way: field by field, as opForms
// tells what each is.
func fastFits(f fast, width int64) bool {
	written, fits := map[int64]int{}, 1 <= width && width <= 6
	for _, x := range f.Ops {
		form, is := opForms()[x.Kind]
		if !is {
			return false
		}
		for i, n := range opFields(x) {
			fits = fits && map[byte]bool{
				'w': 0 <= n && n < 30, 'r': written[n] > 0, 'c': 0 <= n && n < width, 'n': -1000000000 <= n && n <= 1000000000, '-': n == 0,
			}[form[1][i]]
		}
		if form[1][0] == 'w' {
			written[x.To]++
			fits = fits && written[x.To] == 1
		}
	}
	for _, o := range f.Outs {
		ofRow := o.Register == -1 && 0 <= o.Column && o.Column < width && !o.Truth
		fits = fits && (ofRow || o.Column == -1 && written[o.Register] > 0)
	}
	return fits
}

func sameFast(a fast, b fast) bool {
	return slices.Equal(a.Ops, b.Ops) && slices.Equal(a.Outs, b.Outs)
}

// A fastScript writes quick steps in the words that ShowFast has, down each
// sum's tree. It keeps of each column how an Out of it is written.
type fastScript struct {
	lines  []string
	used   int
	places map[string]string
	fails  bool
}

// A placed is where something lies, and whether it is a truth.
type placed struct {
	register string
	truth    bool
}

func (f *fastScript) steps(word string, truth bool, on ...string) placed {
	to := strconv.Itoa(f.used)
	f.used++
	f.fails = f.fails || f.used > 30
	f.lines = append(f.lines, strings.Join(slices.Concat([]string{word, to}, on), " "))
	return placed{to, truth}
}

func (f *fastScript) cell(c impl.Cell) placed {
	f.fails = f.fails || c.Kind == impl.CeNone || c.Kind == impl.CeText
	return f.steps("number", c.Kind == impl.CeTruth, strconv.FormatInt(c.Number, 10))
}

func (f *fastScript) column(name string) placed {
	words := strings.Fields(f.places[name])
	if words[0] == "cell" {
		return f.steps("column", false, words[1])
	}
	return placed{words[1], words[0] == "truth"}
}

func (f *fastScript) sum(b branch) placed {
	parts, on := []placed{}, []string{}
	for _, part := range b.parts {
		x := f.sum(part)
		parts, on = append(parts, x), append(on, x.register)
	}
	switch b.item.Kind {
	case impl.ItCell:
		return f.cell(b.item.Cell)
	case impl.ItName:
		return f.column(b.item.Name)
	case impl.ItLacks:
		return f.steps("number", true, "0")
	case impl.ItNot:
		f.fails = f.fails || !parts[0].truth
		return f.steps("not", true, on...)
	}
	sign := pairSigns()[b.item.Kind-impl.ItPlus]
	one, other := parts[0].truth, parts[1].truth
	switch sign {
	case "+", "-", "*", "/":
		f.fails = f.fails || one || other
	case "=", "<":
		f.fails = f.fails || one != other
	default:
		f.fails = f.fails || !one || !other
	}
	word := map[string]string{"+": "plus", "-": "less", "*": "times", "/": "by", "=": "same", "<": "below", "and": "both", "or": "either"}[sign]
	return f.steps(word, strings.Contains("= < and or", sign), on...)
}

func (f *fastScript) sieve(s impl.Sieve) {
	switch s.Kind {
	case impl.SvKeep:
		return
	case impl.SvWhere, impl.SvLet:
	default:
		f.fails = true
		return
	}
	tree, _ := treeOf(s.Sum)
	x := f.sum(tree)
	if s.Kind == impl.SvLet {
		f.places[s.Name] = map[bool]string{true: "truth ", false: "out "}[x.truth] + x.register
		return
	}
	f.fails = f.fails || !x.truth
	f.lines = append(f.lines, "test "+x.register)
}

// fastText is what ShowFast shows of what FastOf makes, by another way; false
// where there is none.
func fastText(columns []string, l ask) (string, bool) {
	if !impl.TableOk(impl.Table{Name: "t", Columns: columns}) || len(l) > 8 {
		return "", false
	}
	f := fastScript{places: map[string]string{}}
	for i, name := range columns {
		f.places[name] = fmt.Sprint("cell ", i)
	}
	for _, s := range l {
		next, code := impl.StepShape(nil, columns, s)
		if code != impl.ShOk {
			return "", false
		}
		f.sieve(s)
		columns = next
	}
	for _, name := range columns {
		f.lines = append(f.lines, f.places[name])
	}
	return strings.Join(f.lines, "; "), !f.fails
}

// stepsFrom reads Sieves without the table that rows come from.
func stepsFrom(t *testing.T, s string) ask {
	t.Helper()
	if s == "" {
		return nil
	}
	return askFrom(t, "from t | "+s)[1:]
}

func shownSteps(l ask) string { return shownAsk(append(ask{fromSieve("t").sieve}, l...)) }

func wantNoFast(t *testing.T, columns []string, l ask) {
	t.Helper()
	if f, is := impl.FastOf(columns, l); is || f.Ops != nil || f.Outs != nil {
		t.Errorf("FastOf %q of %s: %+v %v; want none", columns, shownSteps(l), f, is)
	}
}

func wantFast(t *testing.T, columns []string, l ask, want string) {
	t.Helper()
	f, is := impl.FastOf(columns, l)
	if got := impl.ShowFast(f); !is || got != want || !sameFast(f, fastFrom(t, want)) {
		t.Errorf("FastOf %q of %s: %q %v, %+v; want %q", columns, shownSteps(l), got, is, f, want)
	}
}

// wantPromise15: what FastOf makes is FastOk, and is what another way makes.
func wantPromise15(t *testing.T, columns []string, l ask) bool {
	t.Helper()
	want, made := fastText(columns, l)
	if !made {
		wantNoFast(t, columns, l)
		return false
	}
	wantFast(t, columns, l, want)
	f, _ := impl.FastOf(columns, l)
	if !impl.FastOk(f, int64(len(columns))) {
		t.Errorf("FastOf %q of %s: %s is not FastOk", columns, shownSteps(l), want)
	}
	for width := int64(-1); width <= 8; width++ {
		wantFastOk(t, f, width, fastFits(f, width))
	}
	return true
}

func wantFastOk(t *testing.T, f fast, width int64, want bool) {
	t.Helper()
	if impl.FastOk(f, width) != want {
		t.Errorf("FastOk of %+v, width %d: want %v", f, width, want)
	}
}

// wantSteps15: of columns and Sieves that are written, these quick steps; where
// none are told there are none.
func wantSteps15(t *testing.T, columns string, cases map[string]string) {
	t.Helper()
	names := strings.Fields(columns)
	for s, want := range cases {
		l := stepsFrom(t, s)
		if want == "" {
			wantNoFast(t, names, l)
		} else {
			wantFast(t, names, l, want)
		}
		if wantPromise15(t, names, l) != (want != "") {
			t.Errorf("%q: another way tells another one", s)
		}
	}
}

func TestFastKinds(t *testing.T) {
	kinds := []int64{
		impl.FoColumn, impl.FoNumber, impl.FoPlus, impl.FoLess, impl.FoTimes, impl.FoBy, impl.FoSame, impl.FoBelow, impl.FoBoth, impl.FoEither, impl.FoNot, impl.FoTest,
	}
	for i, kind := range kinds {
		if kind != int64(i+1) {
			t.Errorf("the kind %d is %d", i+1, kind)
		}
	}
	if impl.MaxRegs != 30 {
		t.Errorf("MaxRegs is %d", impl.MaxRegs)
	}
}

func TestFastOfEachKindOfItem(t *testing.T) {
	wantSteps15(t, "a b", map[string]string{
		"let x = 7":          "number 0 7; cell 0; cell 1; out 0",
		"let x = -7":         "number 0 -7; cell 0; cell 1; out 0",
		"let x = 0":          "number 0 0; cell 0; cell 1; out 0",
		"let x = 1000000000": "number 0 1000000000; cell 0; cell 1; out 0",
		"let x = yes":        "number 0 1; cell 0; cell 1; truth 0",
		"let x = no":         "number 0 0; cell 0; cell 1; truth 0",
		"let x = b":          "column 0 1; cell 0; cell 1; out 0",
		"let x = a + b":      "column 0 0; column 1 1; plus 2 0 1; cell 0; cell 1; out 2",
		"let x = b - a":      "column 0 1; column 1 0; less 2 0 1; cell 0; cell 1; out 2",
		"let x = a * -3":     "column 0 0; number 1 -3; times 2 0 1; cell 0; cell 1; out 2",
		"let x = 9 / a":      "number 0 9; column 1 0; by 2 0 1; cell 0; cell 1; out 2",
		"let x = a = a":      "column 0 0; column 1 0; same 2 0 1; cell 0; cell 1; truth 2",
		"let x = yes = no":   "number 0 1; number 1 0; same 2 0 1; cell 0; cell 1; truth 2",
		"let x = a < b":      "column 0 0; column 1 1; below 2 0 1; cell 0; cell 1; truth 2",
		"let x = no < yes":   "number 0 0; number 1 1; below 2 0 1; cell 0; cell 1; truth 2",
		"let x = yes and no": "number 0 1; number 1 0; both 2 0 1; cell 0; cell 1; truth 2",
		"let x = no or yes":  "number 0 0; number 1 1; either 2 0 1; cell 0; cell 1; truth 2",
		"let x = not no":     "number 0 0; not 1 0; cell 0; cell 1; truth 1",
		"let x = lacks b":    "column 0 1; number 1 0; cell 0; cell 1; truth 1",
		"let x = lacks no":   "number 0 0; number 1 0; cell 0; cell 1; truth 1",
	})
}

func TestFastOfSumsWithinSums(t *testing.T) {
	wantSteps15(t, "a b c", map[string]string{
		"let x = a + b * c - 4":           "column 0 0; column 1 1; column 2 2; times 3 1 2; plus 4 0 3; number 5 4; less 6 4 5; cell 0; cell 1; cell 2; out 6",
		"let x = (a + b) / (c - 4)":       "column 0 0; column 1 1; plus 2 0 1; column 3 2; number 4 4; less 5 3 4; by 6 2 5; cell 0; cell 1; cell 2; out 6",
		"where (a < b) = (b < c)":         "column 0 0; column 1 1; below 2 0 1; column 3 1; column 4 2; below 5 3 4; same 6 2 5; test 6; cell 0; cell 1; cell 2",
		"where not (a = 1) and b < 2":     "column 0 0; number 1 1; same 2 0 1; not 3 2; column 4 1; number 5 2; below 6 4 5; both 7 3 6; test 7; cell 0; cell 1; cell 2",
		"where lacks (a / 0) or yes":      "column 0 0; number 1 0; by 2 0 1; number 3 0; number 4 1; either 5 3 4; test 5; cell 0; cell 1; cell 2",
		"where lacks lacks (a < 'x')":     "",
		"where lacks (lacks a = yes)":     "column 0 0; number 1 0; number 2 1; same 3 1 2; number 4 0; test 4; cell 0; cell 1; cell 2",
		"let x = (a < b) < (c < 1)":       "column 0 0; column 1 1; below 2 0 1; column 3 2; number 4 1; below 5 3 4; below 6 2 5; cell 0; cell 1; cell 2; truth 6",
		"where not not not (c = a) or no": "column 0 2; column 1 0; same 2 0 1; not 3 2; not 4 3; not 5 4; number 6 0; either 7 5 6; test 7; cell 0; cell 1; cell 2",
	})
}

func TestFastOfEachSieve(t *testing.T) {
	wantSteps15(t, "a b", map[string]string{
		"":                                     "cell 0; cell 1",
		"where yes":                            "number 0 1; test 0; cell 0; cell 1",
		"where no":                             "number 0 0; test 0; cell 0; cell 1",
		"where lacks a":                        "column 0 0; number 1 0; test 1; cell 0; cell 1",
		"let x = 5":                            "number 0 5; cell 0; cell 1; out 0",
		"keep a b":                             "cell 0; cell 1",
		"keep b a":                             "cell 1; cell 0",
		"keep b":                               "cell 1",
		"keep b a | keep a":                    "cell 0",
		"where a < 3 | let x = a + b | keep x": "column 0 0; number 1 3; below 2 0 1; test 2; column 3 0; column 4 1; plus 5 3 4; out 5",
		"where a < b | where b < a":            "column 0 0; column 1 1; below 2 0 1; test 2; column 3 1; column 4 0; below 5 3 4; test 5; cell 0; cell 1",
		"let x = a | let y = b":                "column 0 0; column 1 1; cell 0; cell 1; out 0; out 1",
		"keep b a | where b < 2 | let c = a":   "column 0 1; number 1 2; below 2 0 1; test 2; column 3 0; cell 1; cell 0; out 3",
		"let x = yes | keep x a | where x":     "number 0 1; test 0; truth 0; cell 0",
		"where yes | keep b | where no":        "number 0 1; test 0; number 1 0; test 1; cell 1",
	})
}

// A column that an SvLet made is a register: naming it takes none.
func TestFastOfColumnsThatALetMade(t *testing.T) {
	wantSteps15(t, "a", map[string]string{
		"let x = a + 1 | where x < 9":                                "column 0 0; number 1 1; plus 2 0 1; number 3 9; below 4 2 3; test 4; cell 0; out 2",
		"let x = a | let y = x":                                      "column 0 0; cell 0; out 0; out 0",
		"let x = a | let y = x | let z = y":                          "column 0 0; cell 0; out 0; out 0; out 0",
		"let x = a | let y = x * x":                                  "column 0 0; times 1 0 0; cell 0; out 0; out 1",
		"let x = a < 2 | where x":                                    "column 0 0; number 1 2; below 2 0 1; test 2; cell 0; truth 2",
		"let x = a < 2 | where x | where x":                          "column 0 0; number 1 2; below 2 0 1; test 2; test 2; cell 0; truth 2",
		"let x = a < 2 | let y = not x":                              "column 0 0; number 1 2; below 2 0 1; not 3 2; cell 0; truth 2; truth 3",
		"let x = a < 2 | let y = x | where y":                        "column 0 0; number 1 2; below 2 0 1; test 2; cell 0; truth 2; truth 2",
		"let x = a < 2 | where x = yes":                              "column 0 0; number 1 2; below 2 0 1; number 3 1; same 4 2 3; test 4; cell 0; truth 2",
		"let x = a < 2 | let y = lacks x":                            "column 0 0; number 1 2; below 2 0 1; number 3 0; cell 0; truth 2; truth 3",
		"let x = a < 2 | let y = x + 1":                              "",
		"let x = a < 2 | where x = 1":                                "",
		"let x = a + 2 | where x":                                    "",
		"let x = a + 2 | where not x":                                "",
		"let x = a + 2 | let y = x and yes":                          "",
		"where x | let x = yes":                                      "",
		"let x = x":                                                  "",
		"let x = a | let x = a":                                      "",
		"let x = a | keep x | let a = x":                             "column 0 0; out 0; out 0",
		"let x = 3 | keep x | let a = yes":                           "number 0 3; number 1 1; out 0; truth 1",
		"let x = 3 | keep x | where a < 3":                           "",
		"let x = 3 | keep a | where x < 3":                           "",
		"let x = 3 | keep a | let x = yes":                           "number 0 3; number 1 1; cell 0; truth 1",
		"let x = 3 | keep a | let x = yes | where x":                 "number 0 3; number 1 1; test 1; cell 0; truth 1",
		"let x = 3 | let y = yes | keep y a x | let z = x | where y": "number 0 3; number 1 1; test 1; truth 1; cell 0; out 0; out 0",
	})
}

// A column of the row is read each time it is named, and is where it was in
// the row, wherever an SvKeep put it.
func TestFastOfColumnsThatAKeepPutsInAnotherOrder(t *testing.T) {
	wantSteps15(t, "a b c d e f", map[string]string{
		"keep f e d c b a":                                "cell 5; cell 4; cell 3; cell 2; cell 1; cell 0",
		"keep c a e | where a < e":                        "column 0 0; column 1 4; below 2 0 1; test 2; cell 2; cell 0; cell 4",
		"keep c a e | where b < e":                        "",
		"keep c a e | keep b":                             "",
		"keep c a e | let b = c | keep b e":               "column 0 2; out 0; cell 4",
		"keep f a | let b = f | keep a b | let f = a + b": "column 0 5; column 1 0; plus 2 1 0; cell 0; out 0; out 2",
		"let g = a":                  "",
		"keep a b c d e | let g = f": "",
		"keep a b c d e | let f = a": "column 0 0; cell 0; cell 1; cell 2; cell 3; cell 4; out 0",
		"keep f | keep f | keep f":   "cell 5",
	})
	for n := 1; n <= impl.MaxColumns; n++ {
		for at, name := range letters(n) {
			wantFast(t, letters(n), ask{keepSieve(name).sieve}, fmt.Sprint("cell ", at))
			wantPromise15(t, letters(n), ask{letSieve("x", nameSum(name)).sieve})
		}
	}
}

// kindTexts are sums of numbers, of truths, and of neither.
func kindTexts() ([]string, []string, []string) {
	numbers := []string{"a", "5", "-5", "(a + 1)", "(2 - a)", "(a * a)", "(a / 2)", "n"}
	truths := []string{"yes", "no", "(a < 1)", "(a = 1)", "(yes and no)", "(no or no)", "(not yes)", "(lacks a)", "(lacks yes)", "r"}
	return numbers, truths, []string{"none", "'x'", "(1 + yes)", "(yes - 1)", "(not 5)", "(yes and 5)", "(5 or yes)", "(5 = yes)", "(no < 5)", "('x' = 'x')", "(lacks none)", "(lacks 'x')"}
}

// wantStepsMade: behind a number n and a truth r there are quick steps of it, or none.
func wantStepsMade(t *testing.T, s string, made bool) {
	t.Helper()
	l := stepsFrom(t, "let n = a * 2 | let r = a < 9 | "+s)
	if wantPromise15(t, []string{"a"}, l) != made {
		t.Errorf("there are quick steps of %s: want %v", s, made)
	}
}

func TestFastOfNumbersAndTruths(t *testing.T) {
	numbers, truths, neither := kindTexts()
	for _, x := range numbers {
		wantStepsMade(t, "let x = "+x, true)
		wantStepsMade(t, "where "+x, false)
		wantStepsMade(t, "let x = not "+x, false)
		wantStepsMade(t, "let x = lacks "+x, true)
		wantStepsMade(t, "where lacks "+x, true)
	}
	for _, x := range truths {
		wantStepsMade(t, "let x = "+x, true)
		wantStepsMade(t, "where "+x, true)
		wantStepsMade(t, "let x = not "+x, true)
		wantStepsMade(t, "where lacks "+x, true)
	}
	for _, x := range neither {
		for _, s := range []string{"let x = ", "where ", "let x = not ", "where lacks ", "let x = 1 + ", "where yes and "} {
			wantStepsMade(t, s+x, false)
		}
	}
}

func TestFastOfEachTwoUnderEachSign(t *testing.T) {
	numbers, truths, neither := kindTexts()
	for _, sign := range pairSigns() {
		reckons, ranks := strings.Contains("+-*/", sign), strings.Contains("=<", sign)
		for _, one := range numbers {
			for _, other := range numbers {
				wantStepsMade(t, "let x = "+one+" "+sign+" "+other, reckons || ranks)
			}
			for _, other := range slices.Concat(truths, neither) {
				wantStepsMade(t, "let x = "+one+" "+sign+" "+other, false)
				wantStepsMade(t, "let x = "+other+" "+sign+" "+one, false)
			}
		}
		for _, one := range truths {
			for _, other := range truths {
				wantStepsMade(t, "let x = "+one+" "+sign+" "+other, !reckons)
				wantStepsMade(t, "where "+one+" "+sign+" "+other, !reckons)
			}
			for _, other := range neither {
				wantStepsMade(t, "where "+one+" "+sign+" "+other, false)
				wantStepsMade(t, "where "+other+" "+sign+" "+one, false)
			}
		}
	}
}

func TestFastOfNumbersAtTheEdge(t *testing.T) {
	for _, n := range []int64{-1000000000, -999999999, -1, 0, 1, 999999999, 1000000000} {
		w := aloneSum(numberItem(n), strconv.FormatInt(n, 10))
		wantFast(t, []string{"a"}, ask{letSieve("x", w).sieve}, fmt.Sprintf("number 0 %d; cell 0; out 0", n))
		wantPromise15(t, []string{"a"}, ask{whereSieve(pairSum(w, "<", nameSum("a"))).sieve})
	}
	for _, n := range []int64{-1000000001, 1000000001, math.MinInt64, math.MaxInt64, 1 << 32} {
		wantNoFast(t, []string{"a"}, ask{letSieve("x", aloneSum(numberItem(n), "")).sieve})
		wantNoFast(t, []string{"a"}, ask{whereSieve(writtenSum{sum: sum{numberItem(n), nameItem("a"), signItem(impl.ItBelow)}}).sieve})
	}
	for _, c := range wrongCells() {
		wantNoFast(t, []string{"a"}, ask{letSieve("x", aloneSum(cellItem(c), "")).sieve})
	}
	for _, c := range allRight() {
		l := ask{letSieve("x", aloneSum(cellItem(c), "")).sieve}
		if wantPromise15(t, []string{"a"}, l) != (c.Kind == impl.CeNumber || c.Kind == impl.CeTruth) {
			t.Errorf("FastOf of the Cell %+v", c)
		}
	}
}

// someSteps are Sieves of which there are quick steps, wherever there is a
// column a.
func someSteps(t *testing.T) []ask {
	out := []ask{}
	for _, s := range []string{"", "where a < 3", "keep a", "where lacks a | keep a", "keep a | let x = a / 2 | where x < 3 | keep x a"} {
		out = append(out, stepsFrom(t, s))
	}
	return out
}

func TestFastOfEachNumberOfColumns(t *testing.T) {
	for _, l := range someSteps(t) {
		for n := range 10 {
			if wantPromise15(t, letters(n), l) != (1 <= n && n <= 6) {
				t.Errorf("%d columns, %s", n, shownSteps(l))
			}
		}
		wantNoFast(t, nil, l)
		wantNoFast(t, letters(26), l)
	}
	wantFast(t, letters(6), nil, "cell 0; cell 1; cell 2; cell 3; cell 4; cell 5")
	wantFast(t, []string{"and"}, ask{}, "cell 0")
	wantFast(t, []string{"none", "count", "abcdef"}, nil, "cell 0; cell 1; cell 2")
}

func TestFastOfWrongColumns(t *testing.T) {
	for _, l := range someSteps(t) {
		for _, name := range wrongNames() {
			wantNoFast(t, []string{name}, l)
			wantNoFast(t, []string{"a", name}, l)
			wantNoFast(t, []string{name, "b", "c", "d", "e", "a"}, l)
		}
		for _, names := range [][]string{{"a", "a"}, {"a", "b", "b"}, {"b", "a", "b"}, {"a", "b", "c", "d", "e", "a"}} {
			wantNoFast(t, names, l)
		}
	}
}

func TestFastOfEachNumberOfSieves(t *testing.T) {
	for _, s := range []string{"where yes", "where a < 1", "keep a", "keep a b", "let x = a | keep a"} {
		l := stepsFrom(t, s)
		for n := range 12 {
			if wantPromise15(t, letters(2), slices.Repeat(l, n)) != (n*len(l) <= 8) {
				t.Errorf("%d times %s", n, s)
			}
		}
		wantNoFast(t, letters(2), slices.Repeat(l, 1000))
	}
}

// chainOf is a sum of truths that takes just that many registers.
func chainOf(count int) writtenSum {
	w := aloneSum(cellItem(truth(1)), "yes")
	for range count - 1 {
		w = aheadSum("not", w)
	}
	return w
}

func TestFastOfMaxRegsAndOfOneMore(t *testing.T) {
	takes := map[string]int{
		"where p": 0, "let q = p": 0, "let q = a": 1, "let q = 5": 1, "let q = no": 1, "where not p": 1, "where p and p": 1, "let q = p or p": 1, "where p = p": 1, "where p < p": 1, "let q = lacks p": 1,
		"where lacks a": 2, "let q = p | let r = q | where r": 0, "let q = p and no": 2, "where not not p": 2, "let q = a + a": 3, "let q = 7 - a": 3, "let q = a * 1": 3, "let q = 1 / 1": 3,
		"where a < 4": 3, "where a = a": 3, "let q = a | let r = a": 2, "let q = a | let r = q + q": 2, "where no | keep a | where yes": 2,
	}
	for s, more := range takes {
		for count := 1; count <= 33; count++ {
			l := append(ask{letSieve("p", chainOf(count)).sieve}, stepsFrom(t, s)...)
			if wantPromise15(t, []string{"a"}, l) != (count+more <= 30) {
				t.Errorf("%d registers, and %d of %s", count, more, s)
			}
		}
	}
	for count := 1; count <= impl.MaxItems; count++ {
		if wantPromise15(t, []string{"a"}, ask{whereSieve(chainOf(count)).sieve}) != (count <= 30) {
			t.Errorf("%d registers in one sum", count)
		}
	}
	f, _ := impl.FastOf([]string{"a"}, ask{whereSieve(chainOf(30)).sieve})
	if s := impl.ShowFast(f); !strings.HasPrefix(s, "number 0 1; not 1 0; not 2 1; ") || !strings.HasSuffix(s, "; not 28 27; not 29 28; test 29; cell 0") {
		t.Errorf("of just as many registers as there are: %s", s)
	}
}

// otherSieves are right ones of each other Kind.
func otherSieves() ask {
	out := ask{fromSieve("t").sieve}
	for _, w := range []writtenSieve{
		joinSieve("u", aloneSum(cellItem(truth(1)), "yes")), leftSieve("u", aloneSum(cellItem(truth(1)), "yes")), groupSieve(), groupSieve("a"), orderSieve("a", false), orderSieve("a", true), limitSieve(0, 0), limitSieve(9, 1), onceSieve(),
	} {
		out = append(out, w.sieve)
	}
	return out
}

func TestFastOfSievesOfEachOtherKind(t *testing.T) {
	for _, other := range otherSieves() {
		wantNoFast(t, []string{"a"}, ask{other})
		for _, l := range someSteps(t) {
			for at := range len(l) + 1 {
				wantNoFast(t, letters(2), slices.Insert(slices.Clone(l), at, other))
			}
		}
	}
}

func TestFastOfWrongSieves(t *testing.T) {
	right := stepsFrom(t, "where a < 3 | keep a")
	for _, wrong := range wrongSieves() {
		wantNoFast(t, letters(2), ask{wrong})
		for at := range len(right) + 1 {
			wantNoFast(t, letters(2), slices.Insert(slices.Clone(right), at, wrong))
		}
	}
}

func TestFastOfWhatHasNoShape(t *testing.T) {
	for _, s := range []string{
		"let a = 5", "let b = a", "let x = 5 | let x = yes", "where c < 3", "where x", "let x = c", "let x = a + c", "let x = lacks c", "let x = lacks (1 + c)", "where lacks c", "keep c", "keep a c", "keep a b c",
		"keep a | where b < 3", "keep a | keep b", "let x = 1 | let y = 1 | let z = 1 | let p = 1 | let q = 1", "let x = 1 | let y = 1 | let z = 1 | let p = 1 | where yes | let q = 1 | keep a",
	} {
		wantSteps15(t, "a b", map[string]string{s: ""})
	}
	wantStepsMade(t, "let x = 1 | let y = 1 | let z = 1", true)
	wantStepsMade(t, "let x = 1 | let y = 1 | let z = 1 | let p = 1", false)
	wantStepsMade(t, "let x = 1 | let y = 1 | keep a x | let y = 1 | let z = 1", true)
}

func TestPromise15OfAllSmallSums(t *testing.T) {
	alone := []writtenSum{nameSum("a"), nameSum("r"), aloneSum(numberItem(2), "2"), aloneSum(cellItem(truth(1)), "yes"), aloneSum(cellItem(text("x")), "'x'"), aloneSum(cellItem(impl.Cell{}), "none")}
	sums := slices.Concat(smallSums(4, alone...), smallSums(5, alone[0], alone[1], alone[3]))
	made, behind := 0, letSieve("r", aloneSum(cellItem(truth(0)), "no")).sieve
	for _, w := range sums {
		for _, s := range []impl.Sieve{whereSieve(w).sieve, letSieve("x", w).sieve} {
			if wantPromise15(t, []string{"b", "a"}, ask{behind, s}) {
				made++
			}
		}
	}
	if made < 500 || made > len(sums) {
		t.Errorf("there are quick steps of %d of %d", made, 2*len(sums))
	}
}

func TestPromise15OfMixedSums(t *testing.T) {
	for _, w := range slices.Concat(someSums(), mixedSums(), longSums(impl.MaxItems)) {
		names := impl.NamesOf(w.sum)
		if len(names) == 0 || len(names) > impl.MaxColumns {
			names = letters(6)
		}
		wantPromise15(t, names, ask{whereSieve(w).sieve})
		wantPromise15(t, names, ask{keepSieve(names[:1]...).sieve, letSieve("x", w).sieve})
	}
}

// Of the columns that numberSum and truthSum name a, b and c are numbers, d is
// a truth.
func TestPromise15OfGreaterSums(t *testing.T) {
	d, made := &dice{15}, 0
	behind := letSieve("d", aloneSum(cellItem(truth(1)), "yes")).sieve
	for n := range 6000 {
		l, size := ask{behind}, 1+n%impl.MaxItems
		for k := range 1 + d.below(3) {
			l = append(l, whereSieve(writtenSum{sum: truthSum(d, size)}).sieve, letSieve(strings.Repeat("x", k+1), writtenSum{sum: numberSum(d, size)}).sieve)
			size = 1 + size/3
		}
		if wantPromise15(t, letters(3), l[:1+d.below(len(l))]) {
			made++
		}
	}
	if made < 2000 {
		t.Errorf("there are quick steps of %d: too few to tell", made)
	}
}

// fastPieces are Sieves one behind the other of which there often are quick
// steps.
func fastPieces() []string {
	return []string{
		"where a < 3", "where x", "where not x", "where x < 3", "where b = a", "where yes", "where lacks b", "where a", "let x = a + b", "let x = a < b", "let x = y", "let y = x", "let y = a * a - x", "let y = lacks x or a < 1",
		"let a = b", "let b = a / 7", "let c = x", "keep a", "keep b a", "keep x", "keep a x", "keep y x a", "keep a b", "let z = 'x'", "order a", "once",
	}
}

func fastSieves(t *testing.T) ask {
	out := ask{}
	for _, piece := range fastPieces() {
		out = append(out, sieveFrom(t, piece))
	}
	return out
}

func TestPromise15OfAllShortLists(t *testing.T) {
	made, lists := 0, allLists(3, fastSieves(t)...)
	for _, l := range lists {
		if wantPromise15(t, letters(2), l) {
			made++
		}
	}
	if made < 900 || made > len(lists)/2 {
		t.Errorf("there are quick steps of %d of %d", made, len(lists))
	}
}

// Sieves that would fail are seldom put behind the others here.
func TestPromise15OfLongLists(t *testing.T) {
	d, sieves, long := &dice{51}, fastSieves(t), 0
	for n := range 3000 {
		l, columns := ask{}, letters(1+n%impl.MaxColumns)
		for range 40 {
			next := append(slices.Clone(l), sieves[d.below(len(sieves))])
			if _, is := fastText(columns, next); is || d.below(60) == 0 {
				l = next
			}
		}
		if wantPromise15(t, columns, l) && len(l) > 6 {
			long++
		}
		wantPromise15(t, columns, append(l, l...))
	}
	if long < 500 {
		t.Errorf("there are long quick steps %d times: too few to tell", long)
	}
}

// wantFits: of each text of quick steps, and of that width, whether it is FastOk.
func wantFits(t *testing.T, width int64, want bool, texts ...string) {
	t.Helper()
	for _, s := range texts {
		f := fastFrom(t, s)
		wantFastOk(t, f, width, want)
		if fastFits(f, width) != want {
			t.Errorf("%q: another way tells another one", s)
		}
	}
}

func TestFastOkOfEachKindOfOp(t *testing.T) {
	wantFits(t, 2, true,
		"column 0 0", "column 0 1", "column 29 1", "number 0 5", "number 29 -5", "column 0 0; column 1 0", "number 0 1; plus 1 0 0", "number 0 1; number 1 1; plus 2 0 1", "number 0 1; number 1 1; less 2 1 0",
		"number 7 1; times 3 7 7", "number 7 1; by 29 7 7", "number 7 1; same 0 7 7", "number 7 1; below 8 7 7", "number 7 1; both 8 7 7", "number 7 1; either 8 7 7; not 9 8", "number 7 1; not 0 7", "number 7 1; test 7",
		"number 0 1; test 0; test 0; number 1 0; test 1", "number 0 5; number 1 6; both 2 0 1; plus 3 2 2; test 3",
	)
	wantFits(t, 2, false,
		"column 0 2", "column 0 -1", "column 30 0", "column -1 0", "number 30 0", "number -1 0", "plus 0 0 0", "number 0 1; plus 0 0 0", "number 0 1; plus 1 0 1", "number 0 1; plus 1 1 0", "number 0 1; plus 30 0 0", "number 0 1; plus -1 0 0",
		"less 1 0 0", "number 0 1; less 1 0 30", "number 0 1; times 1 30 0", "number 0 1; by 1 -1 0", "number 0 1; same 1 0 -1", "number 0 1; below 2 1 0", "number 0 1; both 2 0 1", "number 0 1; either 1 2 0", "not 0 0", "not 1 0", "number 0 1; not 0 0",
		"number 0 1; not 1 1", "number 0 1; not 1 2", "test 0", "number 1 1; test 0", "number 0 1; test 1", "number 0 1; test -1", "number 0 1; test 30", "test 0; number 0 1", "number 0 1; number 0 1", "number 0 1; column 0 1", "column 3 1; number 2 0; column 3 1",
		"number 0 1; test 0; plus 1 0 0; test 2", "plus 1 0 0; number 0 1", "number 1 5; test 1; test 0", "number 1 5; test 1; plus 2 0 1", "number 1 5; test 1; out 0",
	)
}

func TestFastOkOfOuts(t *testing.T) {
	wantFits(t, 2, true, "", "cell 0", "cell 1", "cell 0; cell 0; cell 1; cell 0; cell 1; cell 0; cell 1; cell 1", "number 0 1; out 0", "number 0 1; truth 0", "number 29 1; out 29; truth 29; cell 0", "number 3 7; number 4 7; truth 4; out 3; truth 3", "number 0 1; test 0; out 0")
	wantFits(t, 2, false, "cell 2", "cell -1", "cell 0; cell 2", "cell -2; cell 0", "out 0", "truth 0", "number 0 1; out 1", "number 0 1; truth 1", "number 0 1; out -2", "number 0 1; truth 30", "number 0 1; out 30", "number 0 1; cell 0; out 0; truth 29")
	had := []fastOp{{Kind: impl.FoNumber, To: 0, A: 1}, {Kind: impl.FoNumber, To: 1, A: 1}}
	for _, o := range []fastOut{
		{}, {Column: 0, Register: 0}, {Column: 1, Register: 1}, {Column: -1, Register: -1}, {Column: -1, Register: -1, Truth: true}, {Column: -2, Register: 0}, {Column: 0, Register: -2}, {Column: 0, Register: -1, Truth: true}, {Column: 1, Register: -1, Truth: true},
		{Column: 2, Register: -1}, {Column: -1, Register: 2}, {Column: math.MinInt64, Register: 0}, {Column: 0, Register: math.MinInt64}, {Column: math.MaxInt64, Register: -1}, {Column: -1, Register: math.MaxInt64}, {Column: 1 << 32, Register: -1}, {Column: -1, Register: 1 << 32},
	} {
		wantFastOk(t, fastWith(had, []fastOut{o}), 2, false)
		wantFastOk(t, fastWith(had, []fastOut{{Column: 1, Register: -1}, o}), 2, false)
		wantFastOk(t, fastWith(had, []fastOut{o, {Column: -1, Register: 1, Truth: true}}), 2, false)
	}
	wantFastOk(t, fastWith(had, []fastOut{{Column: 1, Register: -1}, {Column: -1, Register: 1, Truth: true}}), 2, true)
}

func TestFastOkOfEachWidth(t *testing.T) {
	for width := int64(-3); width <= 10; width++ {
		right := 1 <= width && width <= 6
		for column := int64(-2); column <= 10; column++ {
			there := right && 0 <= column && column < width
			wantFits(t, width, there, fmt.Sprint("column 0 ", column), fmt.Sprint("cell ", column), fmt.Sprint("number 0 1; cell ", column, "; out 0"))
		}
		wantFits(t, width, right, "", "number 0 1", "number 0 1; test 0; truth 0", "cell 0", "column 0 0")
	}
	for _, width := range []int64{math.MinInt64, math.MinInt64 + 1, math.MaxInt64, 1 << 32, 1<<32 + 1, 256, 257, -256} {
		wantFits(t, width, false, "", "cell 0", "column 0 0; out 0", "number 0 1")
	}
}

func TestFastOkOfNumbersAtTheEdge(t *testing.T) {
	for _, n := range []int64{-1000000000, -999999999, -1, 0, 30, 999999999, 1000000000} {
		wantFits(t, 1, true, fmt.Sprint("number 0 ", n), fmt.Sprint("number 0 ", n, "; number 1 ", -n, "; plus 2 0 1; out 2"))
	}
	for _, n := range []int64{-1000000001, 1000000001, math.MinInt64, math.MaxInt64, 1 << 32, -1 << 32, 1 << 40} {
		wantFits(t, 1, false, fmt.Sprint("number 0 ", n), fmt.Sprint("number 0 1; number 1 ", n))
	}
}

// allRegisters15 has an Op for each register, one behind the other.
func allRegisters15() []fastOp {
	out := []fastOp{{Kind: impl.FoColumn}}
	for to := int64(1); to < 30; to++ {
		out = append(out, fastOp{Kind: impl.FoPlus, To: to, A: to - 1, B: 0})
	}
	return out
}

func TestFastOkOfMaxRegsAndOfOneMore(t *testing.T) {
	ops := allRegisters15()
	for at := range ops {
		wantFastOk(t, fastWith(ops[:at+1], []fastOut{{Column: -1, Register: int64(at)}}), 1, true)
		wantFastOk(t, fastWith(ops[:at+1], []fastOut{{Column: -1, Register: int64(at + 1)}}), 1, false)
		// What reads what is written behind it, and what leaves one out.
		wantFastOk(t, fastWith(slices.Delete(slices.Clone(ops), at, at+1), nil), 1, at == 29)
		wantFastOk(t, fastWith(append(slices.Clone(ops), ops[at]), nil), 1, false)
	}
	turned := slices.Clone(ops)
	slices.Reverse(turned)
	wantFastOk(t, fastWith(turned, nil), 1, false)
	for kind := int64(1); kind <= 11; kind++ {
		wantFastOk(t, fastWith(append(slices.Clone(ops), fastOp{Kind: kind, To: 30}), nil), 1, false)
		wantFastOk(t, fastWith(append(slices.Clone(ops[:29]), fastOp{Kind: kind, To: 29}), nil), 1, true)
	}
	many := fastWith(ops, slices.Repeat([]fastOut{{Column: -1, Register: 29}, {Column: 0, Register: -1}}, 500))
	for range 1000 {
		many.Ops = append(many.Ops, fastOp{Kind: impl.FoTest, A: 29})
	}
	wantFastOk(t, many, 1, true)
	many.Ops[700].A = 30
	wantFastOk(t, many, 1, false)
}

// edgeNumbers are near what a To, an A, a B, a Column or a Register may be.
func edgeNumbers() []int64 {
	out := []int64{math.MinInt64, math.MinInt64 + 1, -1000000001, -1000000000, 1000000000, 1000000001, math.MaxInt64 - 1, math.MaxInt64, 1 << 32, 1<<32 + 1, 256, 257}
	for n := int64(-3); n <= 8; n++ {
		out = append(out, n)
	}
	return append(out, 28, 29, 30, 31)
}

// fullFast has each Kind of Op and each of Outs.
func fullFast(t *testing.T) fast {
	return fastFrom(t, "column 2 1; number 3 7; plus 4 2 3; less 5 4 2; times 6 5 5; by 7 6 3; same 8 7 2; below 29 7 2; both 0 8 29; either 1 0 8; not 10 1; test 10; cell 0; cell 1; out 4; truth 10")
}

// Each field of each Op and of each Out, one by one, is put to each of the
// numbers.
func TestFastOkOfOneFieldThatIsOther(t *testing.T) {
	counts := map[bool]int{}
	tries := func(f fast) {
		for _, width := range []int64{1, 2, 3, 6} {
			want := fastFits(f, width)
			wantFastOk(t, f, width, want)
			counts[want]++
		}
	}
	tries(fullFast(t))
	for at := range fullFast(t).Ops {
		for _, n := range edgeNumbers() {
			for field := range 4 {
				f := fullFast(t)
				*[]*int64{&f.Ops[at].Kind, &f.Ops[at].To, &f.Ops[at].A, &f.Ops[at].B}[field] = n
				tries(f)
			}
		}
		for kind := int64(-1); kind <= 14; kind++ {
			f := fullFast(t)
			f.Ops[at].Kind = kind
			tries(f)
		}
	}
	for at := range fullFast(t).Outs {
		for _, n := range edgeNumbers() {
			for field := range 2 {
				f := fullFast(t)
				*[]*int64{&f.Outs[at].Column, &f.Outs[at].Register}[field] = n
				tries(f)
				f.Outs[at].Truth = !f.Outs[at].Truth
				tries(f)
			}
		}
	}
	if counts[true] < 300 || counts[false] < 3000 {
		t.Errorf("%v of them are right: too few to tell", counts)
	}
}

func TestFastOkOfEachSmallOp(t *testing.T) {
	counts := map[bool]int{}
	ahead := []fastOp{{Kind: impl.FoNumber, To: 1, A: 5}, {Kind: impl.FoTest, A: 1}}
	for kind := int64(-1); kind <= 14; kind++ {
		for _, fields := range allLists(3, -1, 0, 1, 2, 29, 30) {
			if len(fields) < 3 {
				continue
			}
			x := opWith(kind, int64(fields[0]), int64(fields[1]), int64(fields[2]))
			behind, before := append(slices.Clone(ahead), x), append([]fastOp{x}, ahead...)
			for _, f := range []fast{fastWith([]fastOp{x}, nil), fastWith(behind, nil), fastWith(behind, []fastOut{{Column: -1, Register: 2, Truth: true}}), fastWith(before, []fastOut{{Column: 0, Register: -1}})} {
				want := fastFits(f, 2)
				wantFastOk(t, f, 2, want)
				counts[want]++
			}
		}
	}
	if counts[true] < 100 {
		t.Errorf("%v of them are right: too few to tell", counts)
	}
}

func TestFastOkOfAllShortLists(t *testing.T) {
	ops := fastFrom(t, "column 0 0; column 1 1; number 1 4; number 2 9; plus 0 1 1; below 2 1 0; both 3 2 1; not 1 2; not 0 0; test 0; test 2; number 30 1").Ops
	outs := [][]fastOut{nil, {{Column: 1, Register: -1}}, {{Column: -1, Register: 0}}, {{Column: -1, Register: 1, Truth: true}, {Column: -1, Register: 2}}, {{Column: 0, Register: 0}}}
	counts := map[bool]int{}
	for i, l := range allLists(4, ops...) {
		f := fastWith(l, outs[i%len(outs)])
		want := fastFits(f, 2)
		wantFastOk(t, f, 2, want)
		counts[want]++
	}
	if counts[true] < 150 {
		t.Errorf("%v of them are right: too few to tell", counts)
	}
}

func TestFastOkOfAnEmptyFast(t *testing.T) {
	for width := int64(-1); width <= 8; width++ {
		wantFastOk(t, fast{}, width, 1 <= width && width <= 6)
		wantFastOk(t, fast{Ops: []fastOp{}, Outs: []fastOut{}}, width, 1 <= width && width <= 6)
	}
	wantFastOk(t, fast{Ops: []fastOp{{}}}, 1, false)
	wantFastOk(t, fast{Outs: []fastOut{{}}}, 1, false)
	if s := impl.ShowFast(fast{}); s != "" {
		t.Errorf("ShowFast of an empty Fast: %q", s)
	}
}

func wantShownFast(t *testing.T, f fast, want string) {
	t.Helper()
	if s := impl.ShowFast(f); s != want {
		t.Errorf("ShowFast of %+v: %q; want %q", f, s, want)
	}
}

func TestShowFastOfEachKind(t *testing.T) {
	for _, s := range []string{
		"column 0 1", "number 2 -7", "plus 0 1 2", "less 3 4 5", "times 6 7 8", "by 9 10 11", "same 12 13 14", "below 15 16 17", "both 18 19 20", "either 21 22 23", "not 24 25", "test 26",
		"cell 0", "out 0", "truth 0", "cell 5", "out 29", "truth 29", "number 0 1; cell 0", "number 0 1; test 0; truth 0; out 0; cell 3; truth 0",
	} {
		f := fastFrom(t, s)
		wantShownFast(t, f, s)
		wantShownFast(t, fastWith(slices.Repeat(f.Ops, 2), slices.Repeat(f.Outs, 2)), shownFast(fastWith(slices.Repeat(f.Ops, 2), slices.Repeat(f.Outs, 2))))
	}
	wantShownFast(t, fullFast(t), "column 2 1; number 3 7; plus 4 2 3; less 5 4 2; times 6 5 5; by 7 6 3; same 8 7 2; below 29 7 2; both 0 8 29; either 1 0 8; not 10 1; test 10; cell 0; cell 1; out 4; truth 10")
}

// Of what is not FastOk, too, what it has is shown, and no more than its Kind
// has.
func TestShowFastOfWhatIsNotFastOk(t *testing.T) {
	for _, n := range edgeNumbers() {
		if n == -1 {
			continue
		}
		for kind := int64(1); kind <= 12; kind++ {
			f := fast{Ops: []fastOp{opWith(kind, n, 1, 2), opWith(kind, 1, n, 2), opWith(kind, 1, 2, n)}}
			wantShownFast(t, f, shownFast(f))
		}
		f := fast{Outs: []fastOut{{Column: n, Register: -1}, {Column: -1, Register: n}, {Column: -1, Register: n, Truth: true}}}
		wantShownFast(t, f, fmt.Sprintf("cell %d; out %d; truth %d", n, n, n))
	}
	wantShownFast(t, fast{Outs: []fastOut{{Column: 4, Register: -1, Truth: true}}}, "cell 4")
	many := fastWith(slices.Repeat([]fastOp{{Kind: impl.FoNumber, To: 77, A: -4}}, 3000), slices.Repeat([]fastOut{{Column: 9, Register: -1}}, 2000))
	wantShownFast(t, many, strings.Repeat("number 77 -4; ", 3000)+strings.Repeat("cell 9; ", 1999)+"cell 9")
}

func TestShowFastOfAnotherKind(t *testing.T) {
	for _, kind := range []int64{0, -1, 13, 14, -12, 256, 257, 1 << 32, 1<<32 + 1, math.MaxInt64, math.MinInt64} {
		wantShownFast(t, fast{Ops: []fastOp{{Kind: kind}}}, "")
		wantShownFast(t, fast{Ops: []fastOp{{Kind: kind, To: 1, A: 2, B: 3}}, Outs: []fastOut{{Column: 0, Register: -1}}}, "")
		for at := range fullFast(t).Ops {
			f := fullFast(t)
			f.Ops = slices.Insert(f.Ops, at, fastOp{Kind: kind})
			wantShownFast(t, f, "")
			wantFastOk(t, f, 2, false)
			f = fullFast(t)
			f.Ops[at].Kind = kind
			wantShownFast(t, f, "")
		}
		f := fullFast(t)
		f.Ops = append(f.Ops, fastOp{Kind: kind})
		wantShownFast(t, f, "")
	}
}

// roomyFast is the same one, with spare room behind its lists.
func roomyFast(f fast) fast {
	ops := append(slices.Clone(f.Ops), opWith(77, 7, 7, 7), opWith(78, 8, 8, 8))
	outs := append(slices.Clone(f.Outs), outWith(77, 7, true), outWith(78, 8, false))
	return fastWith(ops[:len(f.Ops)], outs[:len(f.Outs)])
}

func wholeFast(f fast) fast {
	return fastWith(slices.Clone(f.Ops[:cap(f.Ops)]), slices.Clone(f.Outs[:cap(f.Outs)]))
}

func scribbleFast(f fast) {
	for i := range f.Ops[:cap(f.Ops)] {
		f.Ops[:cap(f.Ops)][i] = opWith(99, 9, 9, 9)
	}
	for i := range f.Outs[:cap(f.Outs)] {
		f.Outs[:cap(f.Outs)][i] = outWith(99, 9, true)
	}
}

func TestFastOkAndShowFastLeaveTheirArguments(t *testing.T) {
	list := []fast{{}, fullFast(t), {Ops: allRegisters15()}, {Ops: []fastOp{{}, {Kind: 99}}, Outs: []fastOut{{}}}}
	for _, l := range someSteps(t) {
		f, _ := impl.FastOf(letters(2), l)
		list = append(list, f)
	}
	for _, f := range list {
		given := roomyFast(f)
		before := wholeFast(given)
		for width := int64(0); width <= 7; width++ {
			is := impl.FastOk(given, width)
			if shown := impl.ShowFast(given); is != impl.FastOk(f, width) || shown != impl.ShowFast(f) {
				t.Errorf("%+v: the spare room counts", f)
			}
		}
		if !sameFast(before, wholeFast(given)) {
			t.Errorf("FastOk or ShowFast writes into %+v", before)
		}
	}
}

func fastSpans(what string, f fast) []span {
	return []span{spanOf(what+", ops", f.Ops), spanOf(what+", outs", f.Outs)}
}

func givenSpans15(columns []string, l ask) []span {
	return append(askSpans("sieves", l), spanOf("columns", columns))
}

// wantNewFast: FastOf leaves what it is given, with its spare room, as it is;
// what it makes is new memory, and no two lists share any.
func wantNewFast(t *testing.T, columns []string, l ask) {
	t.Helper()
	columns, l = roomyColumns(columns), roomyAsk(l)
	beforeColumns, beforeAsk := slices.Clone(columns[:cap(columns)]), wholeAsk(l)
	one, is := impl.FastOf(columns, l)
	other, _ := impl.FastOf(columns, l)
	want := fastWith(slices.Clone(one.Ops), slices.Clone(one.Outs))
	if !slices.Equal(beforeColumns, columns[:cap(columns)]) || !slices.EqualFunc(beforeAsk, wholeAsk(l), sameSieve) {
		t.Errorf("FastOf writes into %q or %s", beforeColumns, shownSteps(l))
	}
	wantApart(t, "FastOf of "+shownSteps(l), slices.Concat(fastSpans("one", one), fastSpans("other", other)), givenSpans15(columns, l))
	scribbleFast(other)
	if again, isAgain := impl.FastOf(columns, l); !sameFast(one, want) || !sameFast(again, want) || is != isAgain {
		t.Errorf("FastOf of %s hangs on what it answered", shownSteps(l))
	}
	scribbleFast(fast{Ops: one.Ops})
	if !slices.Equal(one.Outs, want.Outs) {
		t.Errorf("FastOf of %s: its Ops and Outs share memory", shownSteps(l))
	}
	again, _ := impl.FastOf(columns, l)
	for i := range columns[:cap(columns)] {
		columns[:cap(columns)][i] = "scrib"
	}
	scribbleAsk(l)
	if !sameFast(again, want) {
		t.Errorf("FastOf shares memory with %q", beforeColumns)
	}
}

func TestFastOfIsNewMemory(t *testing.T) {
	for _, l := range allLists(2, fastSieves(t)...) {
		wantNewFast(t, letters(2), l)
	}
	for _, l := range someSteps(t) {
		for n := range 8 {
			wantNewFast(t, letters(n), l)
		}
	}
	for _, wrong := range append(oneWrong(), otherSieves()...) {
		wantNewFast(t, letters(2), ask{sieveFrom(t, "where a < 3"), wrong})
	}
	for count := 28; count <= 32; count++ {
		wantNewFast(t, letters(3), ask{whereSieve(chainOf(count)).sieve})
	}
}

// What shares memory where it is given does not in the answer.
func TestFastOfSievesThatShareMemory(t *testing.T) {
	names := []string{"a", "b", "c", "a"}
	items := sum{nameItem("a"), nameItem("b"), signItem(impl.ItBelow), nameItem("b"), signItem(impl.ItPlus)}
	l := ask{{Kind: impl.SvWhere, Sum: items[:3]}, {Kind: impl.SvKeep, Names: names[1:3]}, {Kind: impl.SvLet, Name: "d", Sum: items[1:2]}, {Kind: impl.SvKeep, Names: names[1:2]}}
	wantPromise15(t, names[:3], l)
	wantFast(t, names[:3], l, "column 0 0; column 1 1; below 2 0 1; test 2; column 3 1; cell 1")
	if !slices.Equal(names, []string{"a", "b", "c", "a"}) || !slices.Equal(items[3:], sum{nameItem("b"), signItem(impl.ItPlus)}) {
		t.Errorf("FastOf writes into %q or %v", names, items)
	}
}

// Asked of what is not right the three answer, and none panics.
func TestQuickStepsOfAnything(t *testing.T) {
	d := &dice{155}
	numbers, kinds := edgeNumbers(), slices.Sorted(maps.Keys(opForms()))
	for range 20000 {
		f := fast{}
		for range d.below(6) {
			f.Ops = append(f.Ops, opWith(kinds[d.below(12)], numbers[d.below(len(numbers))], numbers[d.below(len(numbers))], numbers[d.below(len(numbers))]))
		}
		for range d.below(4) {
			f.Outs = append(f.Outs, outWith(numbers[d.below(len(numbers))], numbers[d.below(len(numbers))], d.below(2) == 0))
		}
		width := numbers[d.below(len(numbers))]
		wantFastOk(t, f, width, fastFits(f, width))
		wantShownFast(t, f, shownFast(f))
	}
}
