package tests

import (
	"fmt"
	"reflect"
	"slices"
	"strings"
	"testing"

	"loop.example/g00536/impl"
)

// emptyTable is a Table without rows, its columns as words.
func emptyTable(name string, columns string) impl.Table {
	return impl.Table{Name: name, Columns: strings.Fields(columns)}
}

// shapeBase has a column named count, one that no Sum can name, a column that
// two Tables have, and a Table of MaxColumns columns.
func shapeBase() base {
	b := base{emptyTable("n", "count and"), emptyTable("t", "a b"), emptyTable("u", "c"), emptyTable("v", "d a"), emptyTable("w", "p q r s x z")}
	b[1].Rows = []row{{number(1), {}}, {text("x"), truth(1)}}
	b[2].Rows = []row{{number(7)}}
	return b
}

// A shape is what ShapeOf and StepShape answer.
type shape struct {
	columns []string
	code    int64
}

func (s shape) String() string { return fmt.Sprintf("%q %d", s.columns, s.code) }

func sameShape(a shape, b shape) bool {
	return slices.Equal(a.columns, b.columns) && a.code == b.code
}

func shapeOf(b base, l ask) shape {
	columns, code := impl.ShapeOf(b, l)
	return shape{columns, code}
}

func stepShape(b base, columns []string, s impl.Sieve) shape {
	next, code := impl.StepShape(b, columns, s)
	return shape{next, code}
}

// shapeFrom reads ok and columns, or the name of a code.
func shapeFrom(t *testing.T, s string) shape {
	t.Helper()
	words := strings.Fields(s)
	if words[0] == "ok" {
		return shape{words[1:], impl.ShOk}
	}
	code, is := map[string]int64{"table": 1, "twice": 2, "column": 3, "many": 4, "bad": 5}[words[0]]
	if !is {
		t.Fatalf("%q is no shape", s)
	}
	return shape{nil, code}
}

func askFrom(t *testing.T, s string) ask {
	t.Helper()
	l, is := impl.ReadAsk(s)
	if !is {
		t.Fatalf("%q is no question", s)
	}
	return l
}

func sieveFrom(t *testing.T, s string) impl.Sieve {
	t.Helper()
	return askFrom(t, "from t | "+s)[1]
}

func wantShape(t *testing.T, b base, l ask, want shape) {
	t.Helper()
	if got := shapeOf(b, l); !sameShape(got, want) {
		t.Errorf("ShapeOf %q: %v; want %v", impl.ShowAsk(l), got, want)
	}
}

func wantStep(t *testing.T, b base, columns []string, s impl.Sieve, want shape) {
	t.Helper()
	if got := stepShape(b, columns, s); !sameShape(got, want) {
		t.Errorf("StepShape %+v behind %q: %v; want %v", s, columns, got, want)
	}
}

// wantShapes: of each question in the base of these tests that shape.
func wantShapes(t *testing.T, cases map[string]string) {
	t.Helper()
	for s, want := range cases {
		wantShape(t, shapeBase(), askFrom(t, s), shapeFrom(t, want))
		wantSteps(t, shapeBase(), askFrom(t, s))
	}
}

// namesIn are the names that stand in a Sum, in their order.
func namesIn(l sum) []string {
	out := []string{}
	for _, x := range l {
		if x.Name != "" {
			out = append(out, x.Name)
		}
	}
	return out
}

func overlap(a []string, b []string) bool {
	return slices.ContainsFunc(a, func(name string) bool { return slices.Contains(b, name) })
}

func within(a []string, b []string) bool {
	return !slices.ContainsFunc(a, func(name string) bool { return !slices.Contains(b, name) })
}

// A stepPlan is what a right Sieve asks for, and what comes of it.
type stepPlan struct {
	noTable bool
	asked   []string // must be columns
	among   []string // of these
	start   []string // of what comes out
	added   []string // behind it, no one of it
}

func planOf(b base, columns []string, s impl.Sieve) stepPlan {
	p := stepPlan{asked: namesIn(s.Sum), among: columns, start: columns}
	switch s.Kind {
	case impl.SvLet:
		p.added = []string{s.Name}
	case impl.SvKeep:
		p.asked, p.start = s.Names, s.Names
	case impl.SvGroup:
		p.asked, p.start, p.added = s.Names, s.Names, []string{"count"}
	case impl.SvOrder:
		p.asked = []string{s.Name}
	case impl.SvJoin, impl.SvLeft:
		at := placeIn(b, s.Name)
		if at < 0 {
			return stepPlan{noTable: true}
		}
		p.added = b[at].Columns
		p.among = slices.Concat(columns, p.added)
	}
	return p
}

// shapeByPlan is StepShape of right arguments by another way: all codes that
// apply are asked for, and the least one is taken.
func shapeByPlan(b base, columns []string, s impl.Sieve) shape {
	p := planOf(b, columns, s)
	lacking := !within(p.asked, p.among)
	twice := overlap(p.start, p.added) && !(s.Kind == impl.SvGroup && lacking)
	for code, applies := range []bool{false, p.noTable, twice, lacking, len(p.start)+len(p.added) > 6} {
		if applies {
			return shape{nil, int64(code)}
		}
	}
	return shape{slices.Concat(p.start, p.added), impl.ShOk}
}

// wantSteps: ShapeOf a question is StepShape Sieve by Sieve, each step is what
// another way says of it, and no two columns are alike.
func wantSteps(t *testing.T, b base, l ask) shape {
	t.Helper()
	want := shape{nil, impl.ShTable}
	if at := placeIn(b, l[0].Name); at >= 0 {
		want = shape{b[at].Columns, impl.ShOk}
	}
	wantShape(t, b, l[:1], want)
	for i, s := range l[1:] {
		if want.code != impl.ShOk {
			break
		}
		planned := shapeByPlan(b, want.columns, s)
		want = stepShape(b, want.columns, s)
		if !sameShape(want, planned) {
			t.Errorf("sieve %d of %q: %v; want %v", i+1, impl.ShowAsk(l), want, planned)
		}
		if want.code == impl.ShOk && !impl.TableOk(impl.Table{Name: "t", Columns: want.columns}) {
			t.Errorf("sieve %d of %q: %v are no columns", i+1, impl.ShowAsk(l), want)
		}
		wantShape(t, b, l[:i+2], want)
	}
	wantShape(t, b, l, want)
	return want
}

func TestShapeCodes(t *testing.T) {
	for i, code := range []int64{impl.ShOk, impl.ShTable, impl.ShTwice, impl.ShColumn, impl.ShMany, impl.ShBad} {
		if code != int64(i) {
			t.Errorf("the code %d is %d", i, code)
		}
	}
}

func TestShapeOfEachKind(t *testing.T) {
	wantShapes(t, map[string]string{
		"from t":                                  "ok a b",
		"from u":                                  "ok c",
		"from n":                                  "ok count and",
		"from w":                                  "ok p q r s x z",
		"from t | where a < b":                    "ok a b",
		"from t | where 5":                        "ok a b",
		"from t | where none":                     "ok a b",
		"from t | let x = a + b":                  "ok a b x",
		"from t | let x = 5":                      "ok a b x",
		"from t | let t = a":                      "ok a b t",
		"from t | keep a":                         "ok a",
		"from t | keep b":                         "ok b",
		"from t | keep b a":                       "ok b a",
		"from t | keep a b":                       "ok a b",
		"from w | keep z x s r q p":               "ok z x s r q p",
		"from w | keep r z p":                     "ok r z p",
		"from t | join u on a = c":                "ok a b c",
		"from t | left u on a = c":                "ok a b c",
		"from u | join t on a = c":                "ok c a b",
		"from u | left t on b < c and a = 1":      "ok c a b",
		"from t | join u on c":                    "ok a b c",
		"from t | left u on b":                    "ok a b c",
		"from t | join u on yes":                  "ok a b c",
		"from u | join v on d = c":                "ok c d a",
		"from t | join n on count < a":            "ok a b count and",
		"from t | group":                          "ok count",
		"from t | group a":                        "ok a count",
		"from t | group b":                        "ok b count",
		"from t | group b a":                      "ok b a count",
		"from w | group z p q s":                  "ok z p q s count",
		"from t | order a":                        "ok a b",
		"from t | order b down":                   "ok a b",
		"from t | limit 5 2":                      "ok a b",
		"from t | limit 0 0":                      "ok a b",
		"from t | once":                           "ok a b",
		"from n | once":                           "ok count and",
		"from t | where lacks b and not a or yes": "ok a b",
	})
}

func TestShapeOfSeveralSieves(t *testing.T) {
	wantShapes(t, map[string]string{
		"from t | let x = a | let y = x | where x < y | keep y x":                      "ok y x",
		"from t | let x = a + b | join u on c = x | keep x c":                          "ok x c",
		"from t | keep b | let a = b":                                                  "ok b a",
		"from t | keep a | let b = a | keep b a | keep a":                              "ok a",
		"from t | keep b | join v on a = b":                                            "ok b d a",
		"from t | group a | order count":                                               "ok a count",
		"from t | group a | order count down | limit 3 0":                              "ok a count",
		"from t | group | let a = count | where a < count":                             "ok count a",
		"from t | group a b | keep count b | let a = b":                                "ok count b a",
		"from t | group a | keep a | group a":                                          "ok a count",
		"from t | group | group":                                                       "ok count",
		"from t | group | keep count":                                                  "ok count",
		"from t | join u on a = c | left w on x = c | once":                            "many",
		"from t | keep a | join u on a = c | group c | left v on a = c | order d down": "ok c count d a",
		"from t | where a | once | limit 1 1 | order b | where b | once | limit 2 2":   "ok a b",
		"from t | let c = a | let d = c | let e = d | let f = e | group f e d c":       "ok f e d c count",
		"from w | keep p | let q = p | let r = q | keep r q p | join u on c = r":       "ok r q p c",
	})
}

// Each Kind behind one column and behind several.
func TestStepShapeOfEachKind(t *testing.T) {
	for _, c := range []struct{ columns, sieve, want string }{
		{"a", "where a < 5", "ok a"}, {"b c a", "where a < c", "ok b c a"}, {"a", "where b", "column"},
		{"a", "let x = a", "ok a x"}, {"b c a", "let x = a + b", "ok b c a x"}, {"x", "let x = 5", "twice"}, {"a", "let x = y", "column"},
		{"a", "keep a", "ok a"}, {"b c a", "keep a b", "ok a b"}, {"b c a", "keep c", "ok c"}, {"b c a", "keep a c b", "ok a c b"}, {"a", "keep b", "column"}, {"a b", "keep b a c", "column"},
		{"a", "join u on c = a", "ok a c"}, {"x y", "join t on a + b < x", "ok x y a b"}, {"c", "join u on c", "twice"}, {"a", "join x on a", "table"}, {"a", "join u on b", "column"},
		{"a", "left u on c = a", "ok a c"}, {"x y", "left t on a + b < x", "ok x y a b"}, {"c", "left u on c", "twice"}, {"a", "left x on a", "table"}, {"a", "left u on b", "column"},
		{"a", "group", "ok count"}, {"b c a", "group", "ok count"}, {"a", "group a", "ok a count"}, {"b c a", "group a b", "ok a b count"}, {"b c a", "group d", "column"}, {"count", "group", "ok count"}, {"count a", "group a", "ok a count"}, {"a count", "group count", "twice"},
		{"a", "order a", "ok a"}, {"b c a", "order a down", "ok b c a"}, {"b c a", "order b", "ok b c a"}, {"a", "order b", "column"}, {"b c", "order a down", "column"},
		{"a", "limit 0 0", "ok a"}, {"b c a", "limit 1000 1000", "ok b c a"}, {"a", "once", "ok a"}, {"b c a", "once", "ok b c a"},
		{"and", "once", "ok and"}, {"none or yes", "let x = 5", "ok none or yes x"}, {"abcdef lacks", "keep abcdef", "ok abcdef"},
	} {
		wantStep(t, shapeBase(), strings.Fields(c.columns), sieveFrom(t, c.sieve), shapeFrom(t, c.want))
	}
}

// Without any Table there are still columns behind which a Sieve may stand.
func TestShapesOfABaseWithoutTables(t *testing.T) {
	for _, b := range []base{nil, {}} {
		wantShape(t, b, askFrom(t, "from t"), shapeFrom(t, "table"))
		wantShape(t, b, askFrom(t, "from t | let x = z | let x = z"), shapeFrom(t, "table"))
		for sieve, want := range map[string]string{
			"where a": "ok a b", "let x = a": "ok a b x", "keep b": "ok b", "group b": "ok b count", "order a": "ok a b", "limit 1 1": "ok a b", "once": "ok a b",
			"join t on a": "table", "left t on a": "table", "where x": "column", "let a = 5": "twice",
		} {
			wantStep(t, b, []string{"a", "b"}, sieveFrom(t, sieve), shapeFrom(t, want))
		}
	}
}

func TestNoTableAndTwiceByThemselves(t *testing.T) {
	wantShapes(t, map[string]string{
		"from x":                                 "table",
		"from tt":                                "table",
		"from a":                                 "table",
		"from count":                             "table",
		"from t | join x on a":                   "table",
		"from t | left x on 5":                   "table",
		"from t | join c on a":                   "table",
		"from t | let a = 5":                     "twice",
		"from t | let b = a":                     "twice",
		"from t | let b = b":                     "twice",
		"from w | let z = p":                     "twice",
		"from t | join t on a = b":               "twice",
		"from t | left t on 5":                   "twice",
		"from t | join v on a":                   "twice",
		"from v | left t on b":                   "twice",
		"from u | let a = c | join t on b = 5":   "twice",
		"from t | let c = a | left u on a":       "twice",
		"from n | group count":                   "twice",
		"from t | group a | group count":         "twice",
		"from t | group a | group a count":       "twice",
		"from t | group a | group count a":       "twice",
		"from t | group a | let count = 5":       "twice",
		"from t | let count = 5 | group a count": "twice",
		"from t | group | join n on count < 5":   "twice",
	})
}

func TestNoColumnAndTooManyByThemselves(t *testing.T) {
	wantShapes(t, map[string]string{
		"from t | where x":                        "column",
		"from t | where a + b < c":                "column",
		"from t | where lacks x":                  "column",
		"from t | where t":                        "column",
		"from t | where count < 5":                "column",
		"from t | let x = y":                      "column",
		"from t | let x = x":                      "column",
		"from t | let x = a + x":                  "column",
		"from t | let c = c":                      "column",
		"from t | keep x":                         "column",
		"from t | keep a x":                       "column",
		"from t | keep x a":                       "column",
		"from t | keep a b c":                     "column",
		"from t | keep count":                     "column",
		"from t | join u on x":                    "column",
		"from t | left u on a = c and b < d":      "column",
		"from t | join u on u":                    "column",
		"from t | group x":                        "column",
		"from t | group a x":                      "column",
		"from t | group count":                    "column",
		"from t | group a count":                  "column",
		"from t | order x":                        "column",
		"from t | order x down":                   "column",
		"from t | order count":                    "column",
		"from t | keep a | order b":               "column",
		"from t | keep a | where b":               "column",
		"from t | group a | keep b":               "column",
		"from t | group | order a":                "column",
		"from t | join u on c | keep a | where c": "column",
		"from w | let y = 5":                      "many",
		"from w | let y = p + z":                  "many",
		"from w | join u on c = p":                "many",
		"from w | left u on c = p":                "many",
		"from u | join w on c = p":                "many",
		"from t | join w on a = z":                "many",
		"from t | left w on 5":                    "many",
	})
}

// A column named count is one as any other, but for what SvGroup makes.
func TestAColumnNamedCount(t *testing.T) {
	wantShapes(t, map[string]string{
		"from t | let count = a":                              "ok a b count",
		"from t | let count = a | keep count a":               "ok count a",
		"from t | let count = a | group":                      "ok count",
		"from t | let count = a | group a":                    "ok a count",
		"from t | let count = a | order count":                "ok a b count",
		"from t | let count = a | group count":                "twice",
		"from t | let count = a | group b count":              "twice",
		"from t | let count = a | group count x":              "column",
		"from t | let count = a | group x count":              "column",
		"from t | let count = a | let count = a":              "twice",
		"from t | group count x":                              "column",
		"from t | group x count":                              "column",
		"from t | group a b count":                            "column",
		"from n | group":                                      "ok count",
		"from n | keep count | let a = count":                 "ok count a",
		"from n | group count x":                              "column",
		"from t | group a | group":                            "ok count",
		"from t | group a | group a":                          "ok a count",
		"from t | group a | let b = count | group b a count":  "twice",
		"from t | group a | let b = count | group b a":        "ok b a count",
		"from t | group a | let b = count | group b a x":      "column",
		"from t | group a | let b = count | group count b c":  "column",
		"from t | group a | keep a | let count = 5 | order a": "ok a count",
	})
}

// numbered are the names xa, xb and so on, which no letter is.
func numbered(count int) []string {
	out := letters(count)
	for i := range out {
		out[i] = "x" + out[i]
	}
	return out
}

// Of each width ahead and each one beside it: MaxColumns is met, and passed.
func TestMaxColumnsAndOneMore(t *testing.T) {
	for ahead := 1; ahead <= 6; ahead++ {
		columns := letters(ahead)
		for beside := 1; beside <= 6; beside++ {
			b := base{{Name: "t", Columns: columns}, {Name: "u", Columns: numbered(beside)}}
			want := shape{nil, impl.ShMany}
			if ahead+beside <= 6 {
				want = shape{slices.Concat(columns, numbered(beside)), impl.ShOk}
			}
			for _, s := range []string{"join u on a = xa", "left u on xa", "join u on 5", "left u on a"} {
				wantStep(t, b, columns, sieveFrom(t, s), want)
				wantShape(t, b, askFrom(t, "from t | "+s), want)
				wantSteps(t, b, askFrom(t, "from t | "+s))
			}
		}
		b, want := base{{Name: "t", Columns: columns}}, shape{nil, impl.ShMany}
		if ahead < 6 {
			want = shape{append(letters(ahead), "x"), impl.ShOk}
		}
		wantStep(t, b, columns, sieveFrom(t, "let x = a"), want)
		wantShape(t, b, askFrom(t, "from t | let x = a"), want)
	}
}

// Of SvGroup there are never too many: it has at most four Names.
func TestGroupBehindMaxColumns(t *testing.T) {
	for width := 1; width <= 6; width++ {
		b := base{{Name: "t", Columns: letters(width)}}
		for count := 0; count <= 4 && count <= width; count++ {
			names := letters(width)[width-count:]
			slices.Reverse(names)
			want := shape{append(slices.Clone(names), "count"), impl.ShOk}
			wantStep(t, b, letters(width), groupSieve(names...).sieve, want)
			wantShape(t, b, ask{fromSieve("t").sieve, groupSieve(names...).sieve}, want)
		}
		for count := 5; count <= width; count++ {
			wantStep(t, b, letters(width), groupSieve(letters(count)...).sieve, shape{nil, impl.ShBad})
			wantShape(t, b, ask{fromSieve("t").sieve, groupSieve(letters(count)...).sieve}, shape{nil, impl.ShBad})
		}
	}
	wide := append(letters(5), "count")
	wantStep(t, nil, wide, groupSieve("a", "b", "c", "count").sieve, shape{nil, impl.ShTwice})
	wantStep(t, nil, wide, groupSieve("a", "b", "c", "d").sieve, shape{[]string{"a", "b", "c", "d", "count"}, impl.ShOk})
	wantStep(t, nil, wide, groupSieve("count", "b", "c", "f").sieve, shape{nil, impl.ShColumn})
}

func TestMaxColumnsLetByLet(t *testing.T) {
	wantShapes(t, map[string]string{
		"from t | let c = a | let d = a | let e = a | let f = a":                       "ok a b c d e f",
		"from t | let c = a | let d = a | let e = a | let f = a | let g = a":           "many",
		"from t | let c = a | let d = a | let e = a | let f = a | keep a | let g = a":  "ok a g",
		"from t | let c = a | let d = a | let e = a | let f = a | group a | let g = 5": "ok a count g",
		"from t | let d = a | let e = a | let f = a | join u on c = d":                 "ok a b d e f c",
		"from t | let d = a | let e = a | let f = a | left u on c = d | once":          "ok a b d e f c",
		"from t | let d = a | let e = a | let f = a | let g = a | join u on c = d":     "many",
		"from t | let d = a | let e = a | let f = a | let g = a | left u on c = d":     "many",
		"from u | let f = c | let g = c | let h = c | join t on a = c":                 "ok c f g h a b",
		"from u | let f = c | let g = c | let h = c | let i = c | join t on a = c":     "many",
	})
}

// Where two codes apply at one Sieve it is the one named first.
func TestTwoCodesAtOneSieve(t *testing.T) {
	wantShapes(t, map[string]string{
		"from t | join x on y":                           "table",
		"from t | left x on y":                           "table",
		"from w | join x on y":                           "table",
		"from t | let a = x":                             "twice",
		"from t | let b = a + x":                         "twice",
		"from w | let p = 5":                             "twice",
		"from w | let p = y":                             "twice",
		"from t | join t on x":                           "twice",
		"from t | left v on x":                           "twice",
		"from w | join w on p":                           "twice",
		"from w | left w on y":                           "twice",
		"from w | let y = a":                             "column",
		"from w | let y = y":                             "column",
		"from w | join u on y":                           "column",
		"from w | left t on c":                           "column",
		"from t | join w on c = p":                       "column",
		"from u | let p = c | join w on q":               "twice",
		"from u | let p = c | join w on y":               "twice",
		"from u | left w on a":                           "column",
		"from n | group x count":                         "column",
		"from n | keep count | let p = 5 | left w on y":  "twice",
		"from t | let c = a | let d = b | join u on x":   "twice",
		"from t | let d = a | let x = b | left w on p":   "twice",
		"from t | let d = a | let y = b | left w on c":   "column",
		"from t | let d = a | let y = b | left w on q+a": "many",
	})
}

// codedPieces are Sieves that stand behind from t, each of which fails with
// that code.
func codedPieces() map[string][]string {
	return map[string][]string{
		"table":  {"join x on a", "left x on y", "join count on 5"},
		"twice":  {"let a = 5", "join t on a", "left v on x", "let b = x"},
		"column": {"where x", "let x = y", "keep x", "join u on x", "left u on y", "group x", "order x", "group count"},
		"many":   {"join w on a", "left w on z"},
	}
}

// Where two Sieves fail it is the one that is met first, whatever their codes.
func TestTwoCodesAtTwoSieves(t *testing.T) {
	fine := []string{"once", "limit 3 0", "where a", "order b", "keep a b"}
	for first, ones := range codedPieces() {
		for second, others := range codedPieces() {
			for i, one := range ones {
				for _, other := range others {
					for _, s := range []string{"from t | " + one + " | " + other, "from t | " + fine[i%5] + " | " + one + " | " + other, "from t | " + one + " | " + fine[i%5] + " | " + other + " | once"} {
						wantShape(t, shapeBase(), askFrom(t, s), shapeFrom(t, first))
					}
				}
			}
			for _, other := range others {
				wantShape(t, shapeBase(), askFrom(t, "from x | "+other), shapeFrom(t, "table"))
				wantShape(t, shapeBase(), askFrom(t, "from t | keep b a | "+other), shapeFrom(t, second))
			}
		}
	}
}

// What a Sieve that fails would have made helps nobody behind it, and what is
// gone is gone.
func TestWhatIsMadeAndWhatIsGone(t *testing.T) {
	wantShapes(t, map[string]string{
		"from t | where x | let x = 5":                    "column",
		"from t | let x = 5 | where x":                    "ok a b x",
		"from t | join u on 5 | where c":                  "ok a b c",
		"from t | where c | join u on 5":                  "column",
		"from t | keep a | let b = 5":                     "ok a b",
		"from t | let b = 5 | keep a":                     "twice",
		"from t | keep b | left v on a = b":               "ok b d a",
		"from t | left v on a = b | keep b":               "twice",
		"from w | keep p q r s x | let y = 5":             "ok p q r s x y",
		"from w | let y = 5 | keep p q r s x":             "many",
		"from w | group p | join t on a = count":          "ok p count a b",
		"from w | group p q r s | join u on c = count":    "ok p q r s count c",
		"from w | group p q r s | join t on a = count":    "many",
		"from w | group p q r s | let y = 5 | let yy = 5": "many",
	})
}

// oneWrong has a Sieve that is not right, of each Kind.
func oneWrong() []impl.Sieve {
	return []impl.Sieve{
		{}, {Kind: 99}, {Kind: impl.SvWhere}, {Kind: impl.SvLet, Name: "x"}, keepSieve().sieve, keepSieve("a", "a").sieve, joinSieve("and", lowSum()).sieve, {Kind: impl.SvLeft, Name: "u"},
		groupSieve("a", "b", "c", "d", "e").sieve, orderSieve("", true).sieve, limitSieve(1001, 0).sieve, limitSieve(0, -1).sieve, {Kind: impl.SvOnce, Down: true}, fromSieve("t").sieve, letSieve("none", lowSum()).sieve,
	}
}

// ShBad goes ahead of all, wherever in the question it stands.
func TestBadAheadOfAll(t *testing.T) {
	for _, pieces := range codedPieces() {
		for _, piece := range append(pieces, "once") {
			for _, wrong := range oneWrong() {
				l := askFrom(t, "from t | once | "+piece+" | once")
				for at := range l {
					wantShape(t, shapeBase(), slices.Insert(slices.Clone(l), at, wrong), shape{nil, impl.ShBad})
				}
				wantShape(t, shapeBase(), append(l, wrong), shape{nil, impl.ShBad})
				wantShape(t, shapeBase(), append(askFrom(t, "from x | "+piece), wrong), shape{nil, impl.ShBad})
			}
		}
	}
	wrongBase := base{emptyTable("u", "c"), emptyTable("t", "a b")}
	for _, s := range []string{"from t", "from x", "from t | where x", "from t | let a = 5", "from t | once"} {
		wantShape(t, wrongBase, askFrom(t, s), shape{nil, impl.ShBad})
	}
}

func TestShapesOfWrongBases(t *testing.T) {
	for name, b := range wrongBases() {
		for _, s := range []string{"from t | once", "from a | keep a", "from zz", "from t | join u on x"} {
			if got := shapeOf(b, askFrom(t, s)); !sameShape(got, shape{nil, impl.ShBad}) {
				t.Errorf("%s: %v", name, got)
			}
		}
		for _, s := range []string{"once", "let x = a", "join u on x", "where y", "let a = 5", "group"} {
			if got := stepShape(b, []string{"a"}, sieveFrom(t, s)); !sameShape(got, shape{nil, impl.ShBad}) {
				t.Errorf("%s: %v", name, got)
			}
		}
	}
}

func TestShapesOfRightBases(t *testing.T) {
	for name, b := range rightBases() {
		for _, x := range b {
			l := ask{{Kind: impl.SvFrom, Name: x.Name}, onceSieve().sieve}
			want := shape{x.Columns, impl.ShOk}
			if slices.Contains(barredWords(), x.Name) {
				want = shape{nil, impl.ShBad}
			}
			if got := shapeOf(b, l); !sameShape(got, want) {
				t.Errorf("%s: %v; want %v", name, got, want)
			}
			wantStep(t, b, x.Columns, onceSieve().sieve, shape{x.Columns, impl.ShOk})
		}
		wantStep(t, b, []string{"a"}, sieveFrom(t, "join qq on a"), shape{nil, impl.ShTable})
	}
}

func TestShapesOfWrongSieves(t *testing.T) {
	for _, s := range wrongSieves() {
		wantStep(t, shapeBase(), []string{"a", "b"}, s, shape{nil, impl.ShBad})
		wantShape(t, shapeBase(), ask{fromSieve("t").sieve, s}, shape{nil, impl.ShBad})
		wantShape(t, shapeBase(), ask{s}, shape{nil, impl.ShBad})
	}
	for _, name := range append(rightNames(), wrongNames()...) {
		wantStep(t, shapeBase(), []string{"a"}, fromSieve(name).sieve, shape{nil, impl.ShBad})
	}
}

func TestShapeOfWhatIsNoQuestion(t *testing.T) {
	from, once := fromSieve("t").sieve, onceSieve().sieve
	for _, l := range []ask{nil, {}, {once}, {once, from}, {from, from}, {from, once, from}, append(ask{from}, slices.Repeat(ask{once}, 8)...), append(ask{from}, slices.Repeat(ask{once}, 900)...)} {
		wantShape(t, shapeBase(), l, shape{nil, impl.ShBad})
		wantShape(t, nil, l, shape{nil, impl.ShBad})
	}
	wantShape(t, shapeBase(), append(ask{from}, slices.Repeat(ask{once}, 7)...), shapeFrom(t, "ok a b"))
}

func TestStepShapeOfWrongColumns(t *testing.T) {
	list := [][]string{nil, {}, {"a", "a"}, {"a", "b", "a"}, {"b", "a", "a"}, {"a", "b", "c", "d", "e", "a"}, {"count", "count"}, letters(7), letters(8), letters(26), slices.Repeat([]string{"a"}, 3000)}
	for _, name := range wrongNames() {
		list = append(list, []string{name}, []string{name, "a"}, []string{"a", name}, []string{"a", "b", "c", "d", "e", name})
	}
	for _, columns := range list {
		for _, s := range append(eachSieve(), groupSieve(), keepSieve("q"), joinSieve("qq", lowSum()), letSieve("a", nameSum("q"))) {
			wantStep(t, shapeBase(), columns, s.sieve, shape{nil, impl.ShBad})
		}
	}
	for width := 1; width <= 6; width++ {
		wantStep(t, shapeBase(), letters(width), onceSieve().sieve, shape{letters(width), impl.ShOk})
	}
	for _, name := range append(rightNames(), barredWords()...) {
		wantStep(t, shapeBase(), []string{"q", name, "qq"}, onceSieve().sieve, shape{[]string{"q", name, "qq"}, impl.ShOk})
	}
}

// Each name in a Sum must be a column, wherever in it it stands.
func TestANameAnywhereInASum(t *testing.T) {
	for _, w := range slices.Concat(someSums(), longSums(impl.MaxItems)) {
		names := namesIn(w.sum)
		slices.Sort(names)
		names = slices.Compact(names)
		if len(names) == 0 || len(names) > 5 || slices.Contains(names, "qqq") {
			continue
		}
		b := base{{Name: "u", Columns: []string{"qqq"}}}
		wantStep(t, b, names, whereSieve(w).sieve, shape{names, impl.ShOk})
		wantStep(t, b, names, letSieve("qqq", w).sieve, shape{append(slices.Clone(names), "qqq"), impl.ShOk})
		wantStep(t, b, names, joinSieve("u", w).sieve, shape{append(slices.Clone(names), "qqq"), impl.ShOk})
		for at := range names {
			fewer := slices.Delete(append(slices.Clone(names), "qq"), at, at+1)
			for _, s := range []writtenSieve{whereSieve(w), letSieve("qqq", w), joinSieve("u", w), leftSieve("u", w)} {
				wantStep(t, b, fewer, s.sieve, shape{nil, impl.ShColumn})
			}
			other := base{{Name: "u", Columns: names[at : at+1]}}
			wantStep(t, other, fewer, joinSieve("u", w).sieve, shape{append(slices.Clone(fewer), names[at]), impl.ShOk})
			wantStep(t, other, fewer, leftSieve("u", w).sieve, shape{append(slices.Clone(fewer), names[at]), impl.ShOk})
		}
	}
}

// shapePieces are Sieves whose names are those of the base here, and some
// more.
func shapePieces() []string {
	return []string{
		"where a", "where c < d", "where 5", "where count = x", "let x = a", "let c = 5", "let a = x", "let count = b", "let y = y",
		"keep a", "keep b a", "keep c x", "keep count", "keep z y", "join t on a", "join u on c = a", "join v on d", "join w on x", "join n on count", "join q on a",
		"left t on b", "left u on x", "left v on a = b", "left w on 5", "left n on e", "group", "group a", "group b a", "group count", "group x count", "group a c count",
		"order a", "order count down", "order x", "limit 5 0", "once",
	}
}

// Promise 11: ShapeOf is StepShape Sieve by Sieve.
func TestPromise11OfAllShortQuestions(t *testing.T) {
	sieves := ask{}
	for _, piece := range shapePieces() {
		sieves = append(sieves, sieveFrom(t, piece))
	}
	for _, from := range []string{"n", "t", "u", "v", "w", "x"} {
		for _, l := range allLists(2, sieves...) {
			wantSteps(t, shapeBase(), append(ask{fromSieve(from).sieve}, l...))
		}
	}
}

// luckySieve is mostly one that goes on behind these columns.
func luckySieve(d *dice, b base, columns []string, sieves ask) impl.Sieve {
	s := sieves[d.below(len(sieves))]
	for range d.below(40) {
		if shapeByPlan(b, columns, s).code == impl.ShOk {
			return s
		}
		s = sieves[d.below(len(sieves))]
	}
	return s
}

func TestPromise11OfLongQuestions(t *testing.T) {
	sieves, d, ends := ask{}, &dice{11}, map[int64]int{}
	for _, piece := range shapePieces() {
		sieves = append(sieves, sieveFrom(t, piece))
	}
	for n := range 6000 {
		x := shapeBase()[d.below(5)]
		l, columns := ask{fromSieve(x.Name).sieve}, x.Columns
		for len(l) < 1+n%impl.MaxSieves {
			s := luckySieve(d, shapeBase(), columns, sieves)
			l = append(l, s)
			if next := shapeByPlan(shapeBase(), columns, s); next.code == impl.ShOk {
				columns = next.columns
			}
		}
		ends[wantSteps(t, shapeBase(), l).code]++
	}
	for code := range int64(impl.ShBad) {
		if ends[code] < 40 {
			t.Errorf("the code %d comes %d times: too few to tell", code, ends[code])
		}
	}
}

func TestStepShapeBehindEachColumns(t *testing.T) {
	sieves := ask{}
	for _, piece := range shapePieces() {
		sieves = append(sieves, sieveFrom(t, piece))
	}
	for _, columns := range allLists(3, "a", "b", "c", "x", "count", "and") {
		right := impl.TableOk(impl.Table{Name: "t", Columns: columns})
		for _, s := range sieves {
			want := shape{nil, impl.ShBad}
			if right {
				want = shapeByPlan(shapeBase(), columns, s)
			}
			wantStep(t, shapeBase(), columns, s, want)
		}
	}
}

// wantNewShape: both leave all that they are given, with its spare room, as it
// is, and their answers are new memory.
func wantNewShape(t *testing.T, b base, columns []string, l ask) {
	t.Helper()
	b, columns, l = roomyBase(b), roomyColumns(columns), roomyAsk(l)
	beforeBase, beforeColumns, beforeAsk := wholeBase(b), slices.Clone(columns[:cap(columns)]), wholeAsk(l)
	given := append(append(baseSpans("the base", b), askSpans("the question", l)...), spanOf("the columns", columns))
	answers := []shape{shapeOf(b, l), shapeOf(b, l)}
	for _, s := range l {
		answers = append(answers, stepShape(b, columns, s), stepShape(b, columns, s))
	}
	spans, want := []span{}, []shape{}
	for i, a := range answers {
		spans = append(spans, spanOf(fmt.Sprint("answer ", i), a.columns))
		want = append(want, shape{slices.Clone(a.columns), a.code})
	}
	wantApart(t, impl.ShowAsk(l), spans, given)
	for i, a := range answers {
		for k := range a.columns[:cap(a.columns)] {
			a.columns[:cap(a.columns)][k] = "scrib"
		}
		if i+1 < len(answers) && !slices.EqualFunc(answers[i+1:], want[i+1:], sameShape) {
			t.Errorf("%q: answer %d shares memory with another one", impl.ShowAsk(l), i)
		}
	}
	if !reflect.DeepEqual(beforeBase, wholeBase(b)) || !slices.Equal(beforeColumns, columns[:cap(columns)]) || !slices.EqualFunc(beforeAsk, wholeAsk(l), sameSieve) {
		t.Errorf("%q: one of the two writes into what it was given", impl.ShowAsk(l))
	}
}

func TestShapesAreNewMemory(t *testing.T) {
	for _, from := range []string{"n", "t", "u", "v", "w", "x"} {
		for _, piece := range shapePieces() {
			for _, columns := range [][]string{nil, {"a"}, {"a", "b"}, {"x", "count", "c"}, {"a", "a"}, letters(6), letters(7)} {
				wantNewShape(t, shapeBase(), columns, askFrom(t, "from "+from+" | "+piece))
				wantNewShape(t, shapeBase(), columns, askFrom(t, "from "+from+" | once | "+piece+" | limit 5 0"))
			}
		}
	}
	for _, wrong := range oneWrong() {
		wantNewShape(t, shapeBase(), []string{"a", "b"}, ask{fromSieve("t").sieve, wrong})
	}
	for name, b := range wrongBases() {
		if len(b) < 10 && !strings.Contains(name, "between") {
			wantNewShape(t, b, []string{"a"}, askFrom(t, "from t | keep a | let x = a"))
		}
	}
}

// What shares memory where it is given does not in the answers.
func TestShapesOfListsThatShareMemory(t *testing.T) {
	names := []string{"a", "b", "c", "d"}
	b := base{{Name: "t", Columns: names[:2]}, {Name: "u", Columns: names[2:]}}
	l := ask{fromSieve("t").sieve, keepSieve(names[:2]...).sieve, {Kind: impl.SvJoin, Name: "u", Sum: lowSum().sum}, keepSieve(names...).sieve, groupSieve(names[1:3]...).sieve}
	wantShape(t, b, l, shape{[]string{"b", "c", "count"}, impl.ShOk})
	wantShape(t, b, l[:4], shape{letters(4), impl.ShOk})
	wantStep(t, b, names[:2], l[2], shape{letters(4), impl.ShOk})
	wantStep(t, b, names, groupSieve(names[:2]...).sieve, shape{[]string{"a", "b", "count"}, impl.ShOk})
	wantStep(t, b, names[:2], letSieve("x", lowSum()).sieve, shape{[]string{"a", "b", "x"}, impl.ShOk})
	if !slices.Equal(names, letters(4)) {
		t.Errorf("one of the two writes into %q", names)
	}
	for _, one := range []shape{shapeOf(b, l[:1]), shapeOf(b, l[:2]), stepShape(b, names, onceSieve().sieve), stepShape(b, names, keepSieve(names...).sieve)} {
		one.columns[0] = "scrib"
		if !slices.Equal(names, letters(4)) {
			t.Errorf("an answer shares memory with %q", names)
		}
	}
}

// Rows do not matter to a shape.
func TestRowsDoNotMatterToAShape(t *testing.T) {
	full := shapeBase()
	for i, x := range full {
		full[i].Rows = mixedTable(len(x.Columns), impl.MaxRows).Rows
	}
	for _, from := range []string{"n", "t", "u", "v", "w", "x"} {
		for _, piece := range shapePieces() {
			l := askFrom(t, "from "+from+" | "+piece)
			wantShape(t, full, l, shapeOf(shapeBase(), l))
		}
	}
}
