package tests

import (
	"fmt"
	"math"
	"reflect"
	"slices"
	"strings"
	"testing"

	"loop.example/g00536/impl"
)

// A handed is all that one Next answers.
type handed struct {
	cursor impl.Cursor
	row    row
	there  bool
	fault  int64
}

func nextOf(b base, l ask, c impl.Cursor) handed {
	cursor, r, there, fault := impl.Next(b, l, c)
	return handed{cursor, r, there, fault}
}

func sameHanded(a handed, b handed) bool {
	return a.cursor == b.cursor && slices.Equal(a.row, b.row) && a.there == b.there && a.fault == b.fault
}

func cursorAt(at int64) impl.Cursor { return impl.Cursor{At: at} }

func overAt(at int64) impl.Cursor { return impl.Cursor{At: at, Over: true} }

func wantNext(t *testing.T, b base, l ask, c impl.Cursor, want handed) {
	t.Helper()
	if got := nextOf(b, l, c); !sameHanded(got, want) {
		t.Errorf("Next of %s at %+v: %+v; want %+v", shownAsk(l), c, got, want)
	}
}

// wantNoNext: there is no such place, be the Cursor Over or not.
func wantNoNext(t *testing.T, b base, l ask, places ...int64) {
	t.Helper()
	for _, at := range places {
		wantNext(t, b, l, cursorAt(at), handed{fault: impl.FtKind})
		wantNext(t, b, l, overAt(at), handed{fault: impl.FtKind})
	}
}

// farPlaces are out of range of every question.
func farPlaces() []int64 {
	return []int64{-1, -2, -1000, math.MinInt64, math.MinInt64 + 1, 1000, 1001, math.MaxInt32, math.MaxInt64 - 1, math.MaxInt64}
}

// wantHandedOn: from the zero Cursor on Next hands on just this, row by row,
// tells the fault once, and nothing behind that.
func wantHandedOn(t *testing.T, b base, l ask, want stream) {
	t.Helper()
	c := impl.Cursor{}
	for i, r := range want.Rows {
		next := cursorAt(int64(i + 1))
		wantNext(t, b, l, c, handed{cursor: next, row: r, there: true})
		c = next
	}
	over := overAt(int64(len(want.Rows)))
	wantNext(t, b, l, c, handed{cursor: over, fault: want.Fault})
	wantNext(t, b, l, over, handed{cursor: over})
}

func wantPulledAll(t *testing.T, b base, l ask, want stream) {
	t.Helper()
	wantStream(t, "PullAll of "+shownAsk(l), want, impl.PullAll(b, l))
}

func wantPulledSome(t *testing.T, b base, l ask, n int64, want stream) {
	t.Helper()
	wantStream(t, fmt.Sprint("PullSome of ", n, " of ", shownAsk(l)), want, impl.PullSome(b, l, n))
}

// firstOf is what is asked of PullSome: where there are n rows nobody looks
// for what comes behind them.
func firstOf(x stream, n int64) stream {
	if n <= int64(len(x.Rows)) {
		return stream{Rows: x.Rows[:n]}
	}
	return x
}

// wantPulled: all three hand on just this.
func wantPulled(t *testing.T, b base, l ask, want stream) {
	t.Helper()
	wantHandedOn(t, b, l, want)
	wantPulledAll(t, b, l, want)
	count := int64(len(want.Rows))
	for _, n := range []int64{0, 1, count / 2, count - 1, count, count + 1, 999, 1000} {
		if n >= 0 {
			wantPulledSome(t, b, l, n, firstOf(want, n))
		}
	}
}

// wantNotPulled: where ShapeOf is not ShOk there are no rows and FtKind,
// whatever else is asked.
func wantNotPulled(t *testing.T, b base, l ask) {
	t.Helper()
	wantNoNext(t, b, l, 0, 1, -1, math.MaxInt64)
	wantPulledAll(t, b, l, stream{Fault: impl.FtKind})
	for _, n := range []int64{0, 1, 1000, 1001, -1} {
		wantPulledSome(t, b, l, n, stream{Fault: impl.FtKind})
	}
}

// wantPulls: of each text that stream; it is what is Meant, too.
func wantPulls(t *testing.T, cases map[string]string) {
	t.Helper()
	for s, want := range cases {
		wantPulled(t, streamBase(), askFrom(t, s), streamFrom(t, want))
		wantPromise14(t, streamBase(), askFrom(t, s))
	}
}

// damsByForm is which Sieves a question that Flows has none of, by another way:
// by how they are shown.
func damsByForm(s impl.Sieve, from string) bool {
	words := strings.Fields(strings.TrimPrefix(impl.ShowAsk(ask{fromSieve("t").sieve, s}), "from t | "))
	return slices.Contains([]string{"group", "order"}, words[0]) || slices.Contains([]string{"join", "left"}, words[0]) && words[1] == from
}

func flowsByForm(l ask) bool {
	return impl.AskOk(l) && !slices.ContainsFunc(l[1:], func(s impl.Sieve) bool { return damsByForm(s, l[0].Name) })
}

func wantFlows(t *testing.T, l ask, want bool) {
	t.Helper()
	if impl.Flows(l) != want {
		t.Errorf("Flows of %s: want %v", shownAsk(l), want)
	}
}

// shortBase is a Shortened base by another way; it shares memory with b.
func shortBase(b base, name string, n int64) base {
	out := slices.Clone(b)
	for i, x := range out {
		if x.Name == name && n < int64(len(x.Rows)) {
			out[i].Rows = x.Rows[:n]
		}
	}
	return out
}

func wantShortened(t *testing.T, what string, b base, name string, n int64, want base) {
	t.Helper()
	wantBase(t, fmt.Sprintf("%s, Shortened of %q by %d", what, name, n), want, impl.Shortened(b, name, n))
}

// isBeginning: the one stream is the beginning of the other one; only where it
// is all of that it may end with a fault, and then with that one's.
func isBeginning(one stream, other stream) bool {
	if one.Fault != impl.FtNone {
		return sameStream(one, other)
	}
	return len(one.Rows) <= len(other.Rows) && sameStream(one, stream{Rows: other.Rows[:len(one.Rows)]})
}

// wantBeginnings: of a question that Flows less goes in, less comes out, and
// the same.
func wantBeginnings(t *testing.T, b base, l ask, whole stream) {
	t.Helper()
	last, all := stream{}, int64(len(b[placeIn(b, l[0].Name)].Rows))
	for n := range all + 2 {
		short := impl.Shortened(b, l[0].Name, n)
		got := impl.Meant(short, l)
		if !isBeginning(got, whole) || !isBeginning(last, got) {
			t.Errorf("%s of the first %d rows: %s; behind %s, of all %s", shownAsk(l), n, shownStream(got), shownStream(last), shownStream(whole))
		}
		wantPulledAll(t, short, l, got)
		last = got
	}
	wantStream(t, "of all rows "+shownAsk(l), whole, last)
}

// wantPromise14: Next, PullAll and PullSome hand on what is Meant; where it
// Flows less goes in, less comes out, and the same.
func wantPromise14(t *testing.T, b base, l ask) stream {
	t.Helper()
	want := impl.Meant(b, l)
	wantFlows(t, l, flowsByForm(l))
	if _, code := impl.ShapeOf(b, l); code != impl.ShOk {
		wantNotPulled(t, b, l)
		return want
	}
	wantPulled(t, b, l, want)
	count := int64(len(want.Rows))
	wantNoNext(t, b, l, count+1, count+2, -1)
	for at := range count {
		wantNext(t, b, l, overAt(at), handed{cursor: overAt(at)})
	}
	if impl.Flows(l) {
		wantBeginnings(t, b, l, want)
	}
	return want
}

func TestPullOfEachKind(t *testing.T) {
	wantPulls(t, map[string]string{
		"from t":                   "1 5; 3 2; none 7",
		"from u":                   "2; 3; 3",
		"from t | where a < b":     "1 5",
		"from t | where lacks a":   "none 7",
		"from t | let x = a + b":   "1 5 6; 3 2 5; none 7 none",
		"from t | keep b":          "5; 2; 7",
		"from t | keep b a":        "5 1; 2 3; 7 none",
		"from t | join u on c = a": "3 2 3; 3 2 3",
		"from t | join u on a < c": "1 5 2; 1 5 3; 1 5 3",
		"from u | let i = c | keep i | join u on i < c": "2 3; 2 3",
		"from t | left u on c = a":                      "1 5 none; 3 2 3; 3 2 3; none 7 none",
		"from t | left e on yes":                        "1 5 none none; 3 2 none none; none 7 none none",
		"from t | group":                                "3",
		"from u | group c":                              "2 1; 3 2",
		"from t | order b":                              "3 2; 1 5; none 7",
		"from t | order a down":                         "3 2; 1 5; none 7",
		"from t | limit 2 0":                            "1 5; 3 2",
		"from t | limit 1 1":                            "3 2",
		"from t | limit 9 1":                            "3 2; none 7",
		"from u | once":                                 "2; 3",
		"from u | once | limit 1 1":                     "3",
		"from u | limit 2 1 | once":                     "3",
		"from u | order c down | once | group":          "2",
		"from t | left u on c = a | group":              "4",
		"from t | left u on c = a | order b down":       "none 7 none; 1 5 none; 3 2 3; 3 2 3",
	})
}

func TestPullWithAFaultAtTheEnd(t *testing.T) {
	wantPulls(t, map[string]string{
		"from t | let x = b / (a - 3)":                                "1 5 -2 !zero",
		"from t | let x = b / (a - 3) | keep x":                       "-2 !zero",
		"from t | let x = b / (a - 3) | where no":                     "!zero",
		"from t | let x = b / (a - 3) | once":                         "1 5 -2 !zero",
		"from t | let x = b / (a - 3) | limit 1 0":                    "1 5 -2",
		"from t | let x = b / (a - 3) | limit 2 0":                    "1 5 -2 !zero",
		"from t | let x = b / (a - 3) | limit 1 1":                    "!zero",
		"from t | let x = b / (a - 3) | limit 5 5":                    "!zero",
		"from t | let x = b / (a - 3) | limit 0 1":                    "",
		"from t | let x = b / (a - 3) | group":                        "!zero",
		"from t | let x = b / (a - 3) | order x":                      "!zero",
		"from t | let x = b / (a - 3) | order x | limit 0 0":          "",
		"from t | let x = b / (a - 3) | left e on yes | keep x":       "-2 !zero",
		"from t | let x = b / (a - 3) | join u on yes | keep c":       "2; 3; 3 !zero",
		"from t | let x = b / (a - 3) | let y = x + 'x'":              "!kind",
		"from t | let x = b * 500000000":                              "!over",
		"from t | order b | let x = b * 500000000 | keep x":           "1000000000 !over",
		"from t | where 7 / (b - 2) < 3":                              "1 5 !zero",
		"from m | where h":                                            "'x' yes !kind",
		"from m | where h | limit 1 0":                                "'x' yes",
		"from m | keep g | let x = g + 1":                             "!kind",
		"from u | join t on 6 / (c - a) < 9 | keep c a":               "2 1; 2 3; 3 1 !zero",
		"from u | left t on 6 / (c - a) < 9 | keep c a | limit 2 0":   "2 1; 2 3",
		"from u | left t on 6 / (c - a) < 0 | keep c a":               "2 3 !zero",
		"from u | left t on 6 / (c - a) < 0 | where no":               "!zero",
		"from t | limit 1 0 | let x = b / (a - 3)":                    "1 5 -2",
		"from t | limit 2 0 | let x = b / (a - 3)":                    "1 5 -2 !zero",
		"from t | let x = b / (a - 3) | let y = x + 'x' | limit 0 9":  "",
		"from t | let x = b / (a - 3) | group | join u on yes | once": "!zero",
	})
}

func TestPullWhereNothingComes(t *testing.T) {
	for s, fault := range map[string]int64{
		"from e": impl.FtNone, "from e | once": impl.FtNone, "from e | order d": impl.FtNone, "from e | group d": impl.FtNone, "from e | let x = 1 / 0": impl.FtNone, "from e | join t on yes": impl.FtNone, "from t | where no": impl.FtNone, "from t | join e on yes": impl.FtNone,
		"from t | limit 0 0": impl.FtNone, "from t | limit 5 3": impl.FtNone, "from t | let x = 1 / 0 | limit 0 0": impl.FtNone, "from t | let x = 1 / 0 | group | limit 0 5": impl.FtNone,
		"from t | let x = 1 / 0": impl.FtZero, "from t | where 5": impl.FtKind, "from t | let x = 1000000000 + b": impl.FtOver, "from t | let x = b / (a - 3) | order x": impl.FtZero, "from t | where 1 / 0 | group": impl.FtZero, "from t | let x = 1 / 0 | limit 1 0": impl.FtZero, "from t | left u on c": impl.FtKind,
	} {
		l := askFrom(t, s)
		wantNext(t, streamBase(), l, impl.Cursor{}, handed{cursor: overAt(0), fault: fault})
		wantNext(t, streamBase(), l, overAt(0), handed{cursor: overAt(0)})
		wantNoNext(t, streamBase(), l, 1, 2, -1)
		wantNoNext(t, streamBase(), l, farPlaces()...)
		wantPulledAll(t, streamBase(), l, stream{Fault: fault})
		wantPulledSome(t, streamBase(), l, 0, stream{})
		wantPulledSome(t, streamBase(), l, 1, stream{Fault: fault})
		wantPulledSome(t, streamBase(), l, 1000, stream{Fault: fault})
		wantPromise14(t, streamBase(), l)
	}
}

// Next hangs on its Cursor alone: on which row it is, not on who asked before.
func TestNextOfEachPlace(t *testing.T) {
	for s, want := range map[string]string{
		"from t":                                "1 5; 3 2; none 7",
		"from e":                                "",
		"from t | order b":                      "3 2; 1 5; none 7",
		"from t | let x = b / (a - 3) | keep x": "-2 !zero",
		"from u | join t on yes | let x = 9 / (c - a) | keep x": "9; -9; none; 4 !zero",
		"from t | where 5": "!kind",
	} {
		l, x := askFrom(t, s), streamFrom(t, want)
		count := int64(len(x.Rows))
		for place, r := range slices.Backward(x.Rows) {
			at := int64(place)
			there := handed{cursor: cursorAt(at + 1), row: r, there: true}
			wantNext(t, streamBase(), l, cursorAt(at), there)
			wantNext(t, streamBase(), l, overAt(at), handed{cursor: overAt(at)})
			wantNext(t, streamBase(), l, cursorAt(at), there)
		}
		wantNext(t, streamBase(), l, cursorAt(count), handed{cursor: overAt(count), fault: x.Fault})
		wantNext(t, streamBase(), l, overAt(count), handed{cursor: overAt(count)})
		wantNoNext(t, streamBase(), l, count+1, count+2, count+60)
		wantNoNext(t, streamBase(), l, farPlaces()...)
	}
}

// The fault is told once: the Cursor that comes with it is Over.
func TestNextBehindTheFault(t *testing.T) {
	l := askFrom(t, "from t | let x = b / (a - 3)")
	c, faults := impl.Cursor{}, []int64{}
	for range 6 {
		next, r, there, fault := impl.Next(streamBase(), l, c)
		if there != (len(r) == 3) {
			t.Errorf("at %+v: %v and %+v", c, there, r)
		}
		c, faults = next, append(faults, fault)
	}
	if want := []int64{impl.FtNone, impl.FtZero, impl.FtNone, impl.FtNone, impl.FtNone, impl.FtNone}; !slices.Equal(faults, want) || c != overAt(1) {
		t.Errorf("the faults %v, at the end %+v", faults, c)
	}
}

func TestPullSomeOfEachCount(t *testing.T) {
	b := base{{Name: "t", Columns: []string{"a"}, Rows: numbersUpTo(60)}, {Name: "u", Columns: []string{"b"}, Rows: numbersUpTo(60)}}
	for s, want := range map[string]stream{
		"from t":                            {Rows: numbersUpTo(60)},
		"from t | order a":                  {Rows: numbersUpTo(60)},
		"from t | where 9 / (a - 40) < 99":  ending(numbersUpTo(40), impl.FtZero),
		"from t | where a < 0":              {},
		"from t | where a":                  {Fault: impl.FtKind},
		"from t | limit 30 0":               {Rows: numbersUpTo(30)},
		"from t | join u on a < 1 | keep b": {Rows: numbersUpTo(60)},
	} {
		l := askFrom(t, s)
		for n := range int64(63) {
			wantPulledSome(t, b, l, n, firstOf(want, n))
		}
		for _, n := range []int64{499, 500, 501, 999, 1000} {
			wantPulledSome(t, b, l, n, want)
		}
		for _, n := range []int64{-1, -2, -60, 1001, 1002, 2000, math.MaxInt32, math.MaxInt64, math.MinInt64} {
			wantPulledSome(t, b, l, n, stream{Fault: impl.FtKind})
		}
	}
}

// MaxMade rows, and FtMany where there would be one more and somebody asks.
func TestPullAtMaxMade(t *testing.T) {
	b := base{{Name: "t", Columns: []string{"a"}, Rows: numbersUpTo(60)}, {Name: "u", Columns: []string{"b"}, Rows: numbersUpTo(60)}, {Name: "v", Columns: []string{"c"}, Rows: numbersUpTo(50)}, {Name: "w", Columns: []string{"d"}, Rows: numbersUpTo(10)}}
	for s, want := range map[string]struct {
		rows  int
		fault int64
	}{
		"from t | join u on yes": {500, impl.FtMany}, "from t | left u on yes": {500, impl.FtMany}, "from v | join w on yes": {500, impl.FtNone}, "from w | left v on yes": {500, impl.FtNone},
		"from t | join w on a < 50": {500, impl.FtNone}, "from t | left w on a < 50": {500, impl.FtMany}, "from t | join u on yes | limit 500 0": {500, impl.FtNone}, "from t | join u on yes | limit 501 0": {500, impl.FtMany},
		"from t | join u on yes | limit 1 499": {1, impl.FtNone}, "from t | join u on yes | limit 1 500": {0, impl.FtMany}, "from t | join u on yes | group": {0, impl.FtMany}, "from t | join u on yes | order a | limit 0 0": {0, impl.FtNone},
		"from t | join u on yes | keep a | once": {9, impl.FtMany}, "from t | join u on yes | join v on no": {0, impl.FtMany}, "from t | join u on yes | left v on no": {500, impl.FtMany}, "from t | join u on yes | join v on 1 / (c - 3) < 5": {3, impl.FtZero},
		"from t | join u on a < 8 or b < 20 and a = 8": {500, impl.FtNone}, "from t | join u on a < 8 or b < 21 and a = 8": {500, impl.FtMany}, "from t | join u on a < 8 or b < 20 / (9 - a) and a = 8": {500, impl.FtZero},
	} {
		l := askFrom(t, s)
		x := impl.Meant(b, l)
		if len(x.Rows) != want.rows || x.Fault != want.fault {
			t.Errorf("%s means %d rows and %d; want %v", s, len(x.Rows), x.Fault, want)
		}
		wantPulledAll(t, b, l, x)
		count := int64(want.rows)
		for _, n := range []int64{0, 1, 499, 500, 501, 1000} {
			wantPulledSome(t, b, l, n, firstOf(x, n))
		}
		if count > 0 {
			wantNext(t, b, l, cursorAt(count-1), handed{cursor: cursorAt(count), row: x.Rows[count-1], there: true})
		}
		wantNext(t, b, l, cursorAt(count), handed{cursor: overAt(count), fault: want.fault})
		wantNext(t, b, l, overAt(count), handed{cursor: overAt(count)})
		wantNoNext(t, b, l, count+1, -1, math.MaxInt64)
	}
	wantHandedOn(t, b, askFrom(t, "from t | join u on yes"), impl.Meant(b, askFrom(t, "from t | join u on yes")))
}

func TestPullWhereTheShapeIsNotOk(t *testing.T) {
	from, once := fromSieve("t").sieve, onceSieve().sieve
	for _, l := range []ask{nil, {}, {once}, {once, from}, {from, from}, {{}}, {{Kind: impl.SvFrom}}, {{Kind: 99, Name: "t"}}, append(ask{from}, slices.Repeat(ask{once}, 8)...)} {
		wantNotPulled(t, streamBase(), l)
		wantNotPulled(t, nil, l)
	}
	for _, s := range slices.Concat(wrongSieves(), oneWrong()) {
		wantNotPulled(t, streamBase(), ask{from, s})
		wantNotPulled(t, streamBase(), ask{from, once, s, limitSieve(0, 0).sieve})
	}
	for _, pieces := range codedPieces() {
		for _, piece := range pieces {
			for _, s := range []string{"from t | " + piece, "from t | limit 0 0 | " + piece + " | limit 0 0"} {
				if l := askFrom(t, s); shapeOf(shapeBase(), l).code != impl.ShOk {
					wantNotPulled(t, shapeBase(), l)
				} else {
					t.Errorf("%q is of a shape", s)
				}
			}
		}
	}
	for _, b := range wrongBases() {
		for _, s := range []string{"from t", "from a", "from b | group", "from a | limit 0 0"} {
			wantNotPulled(t, b, askFrom(t, s))
		}
	}
	wantNotPulled(t, nil, ask{from})
	wantNotPulled(t, streamBase(), askFrom(t, "from x"))
	wantPulled(t, streamBase(), append(ask{from}, slices.Repeat(ask{once}, 7)...), stream{Rows: streamBase()[2].Rows})
}

func TestFlowsOfEachKind(t *testing.T) {
	flowing := []string{"where a < 3", "where lacks count", "let x = b", "let group = b", "keep a", "keep order group", "join u on yes", "join order on yes", "left u on yes", "left tt on t", "limit 5 0", "limit 0 0", "once"}
	dams := []string{"group", "group a", "group a b", "order a", "order b down", "join t on yes", "join t on a = 1", "left t on yes", "left t on lacks a"}
	wantFlows(t, ask{fromSieve("t").sieve}, true)
	for _, s := range flowing {
		wantFlows(t, askFrom(t, "from t | "+s), true)
		for _, other := range flowing {
			wantFlows(t, askFrom(t, "from t | "+s+" | "+other), true)
		}
		for _, dam := range dams {
			wantFlows(t, askFrom(t, "from t | "+dam), false)
			wantFlows(t, askFrom(t, "from t | "+s+" | "+dam), false)
			wantFlows(t, askFrom(t, "from t | "+dam+" | "+s), false)
			wantFlows(t, askFrom(t, "from t | "+s+" | once | once | once | once | once | "+dam), false)
		}
	}
	for _, kind := range []string{"join", "left"} {
		for _, from := range []string{"t", "u", "tt", "on", "order", "group"} {
			for _, other := range []string{"t", "u", "tt", "on", "order", "group"} {
				wantFlows(t, askFrom(t, "from "+from+" | "+kind+" "+other+" on yes"), from != other)
				wantFlows(t, askFrom(t, "from "+from+" | join q on yes | "+kind+" "+other+" on yes | left p on no"), from != other)
			}
		}
	}
	wantFlows(t, ask{fromSieve("t").sieve, letSieve("t", nameSum("t")).sieve, keepSieve("t").sieve, joinSieve("u", nameSum("t")).sieve}, true)
}

// Flows asks nothing of a base: the question alone counts.
func TestFlowsOfMixedQuestions(t *testing.T) {
	d, sieves, flows := &dice{31}, mixedSieves(), 0
	for _, s := range streamSieves(t) {
		sieves = append(sieves, slices.Repeat([]writtenSieve{{sieve: s}}, 100)...)
	}
	for n := range 20000 {
		l := ask{fromSieve([]string{"t", "u", "m", "aa"}[d.below(4)]).sieve}
		for range n % impl.MaxSieves {
			l = append(l, sieves[d.below(len(sieves))].sieve)
		}
		want := flowsByForm(l)
		if wantFlows(t, l, want); want && len(l) > 2 {
			flows++
		}
	}
	if flows < 1000 {
		t.Errorf("%d questions flow: too few to tell", flows)
	}
}

func TestFlowsOfWhatIsNoQuestion(t *testing.T) {
	from, once := fromSieve("t").sieve, onceSieve().sieve
	for _, l := range []ask{nil, {}, {once}, {once, from}, {from, from}, {from, once, from}, {{}}, {{Kind: impl.SvFrom}}, {{Kind: impl.SvFrom, Name: "and"}}, {{Kind: impl.SvFrom, Name: "t", Down: true}}, {{Kind: 99, Name: "t"}}, {{Kind: -1, Name: "t"}}} {
		wantFlows(t, l, false)
	}
	for _, wrong := range wrongSieves() {
		wantFlows(t, ask{wrong}, false)
		wantFlows(t, ask{wrong, once}, false)
	}
	for _, wrong := range slices.Concat(wrongSieves(), oneWrong()) {
		wantFlows(t, ask{from, wrong}, false)
		wantFlows(t, ask{wrong, from}, false)
		wantFlows(t, ask{from, once, wrong, once}, false)
		wantFlows(t, ask{from, once, once, wrong}, false)
	}
	wantFlows(t, append(ask{from}, slices.Repeat(ask{once}, impl.MaxSieves-1)...), true)
	wantFlows(t, append(ask{from}, slices.Repeat(ask{once}, impl.MaxSieves)...), false)
}

func TestShortenedOfEachTable(t *testing.T) {
	b := streamBase()
	for _, x := range b {
		count := int64(len(x.Rows))
		for n := range count + 3 {
			wantShortened(t, "streams", b, x.Name, n, shortBase(b, x.Name, n))
			for _, other := range b {
				in, found := impl.TableIn(impl.Shortened(b, x.Name, n), other.Name)
				want := other
				if other.Name == x.Name {
					want.Rows = want.Rows[:min(n, count)]
				}
				if wantTable(t, "in what is Shortened", want, in); !found {
					t.Errorf("Shortened of %q by %d has no %q any more", x.Name, n, other.Name)
				}
			}
		}
		for _, n := range []int64{count, count + 1, 59, 60, 61, 1000, math.MaxInt32, math.MaxInt64 - 1, math.MaxInt64} {
			wantShortened(t, "streams", b, x.Name, n, b)
		}
		for _, n := range []int64{-1, -2, -60, math.MinInt64, math.MinInt64 + 1} {
			wantShortened(t, "streams", b, x.Name, n, nil)
		}
	}
	full := base{namedTable("t", 2, impl.MaxRows), namedTable("u", 6, impl.MaxRows)}
	for n := range int64(impl.MaxRows + 3) {
		wantShortened(t, "full tables", full, "t", n, shortBase(full, "t", n))
		wantShortened(t, "full tables", full, "u", n, shortBase(full, "u", n))
	}
}

func TestShortenedOfEachName(t *testing.T) {
	for what, b := range rightBases() {
		for _, name := range someNames() {
			for _, n := range []int64{0, 1, 2, 3, 60, math.MaxInt64} {
				want := shortBase(b, name, n)
				if placeIn(b, name) < 0 {
					want = b
				}
				wantShortened(t, what, b, name, n, want)
			}
			wantShortened(t, what, b, name, -1, nil)
			wantShortened(t, what, b, name, math.MinInt64, nil)
		}
		if !impl.BaseOk(impl.Shortened(b, "a", 1)) {
			t.Errorf("%s: what is Shortened is no base", what)
		}
	}
}

func TestShortenedOfWhatIsNoBase(t *testing.T) {
	for what, b := range wrongBases() {
		names := []string{"", "a", "b", "t", "y", "q"}
		for _, x := range b[:min(3, len(b))] {
			names = append(names, x.Name)
		}
		for _, name := range names {
			for _, n := range []int64{0, 1, 60, math.MaxInt64, -1} {
				wantShortened(t, what, b, name, n, nil)
			}
		}
	}
	// A Table that is too long does not become right by being shortened.
	wantShortened(t, "too many rows", base{namedTable("t", 2, impl.MaxRows+1)}, "t", 2, nil)
	wantShortened(t, "a wrong row at the end", base{{Name: "t", Columns: letters(2), Rows: []row{mixedRow(1, 2), mixedRow(1, 3)}}}, "t", 1, nil)
	wantShortened(t, "no tables", nil, "t", 2, nil)
}

func TestPromise14OfAllShortQuestions(t *testing.T) {
	for _, from := range []string{"e", "m", "t", "u", "x"} {
		for _, l := range allLists(2, streamSieves(t)...) {
			wantPromise14(t, streamBase(), append(ask{fromSieve(from).sieve}, l...))
		}
	}
}

func TestPromise14OfLongQuestions(t *testing.T) {
	d, b, sieves, ends, flows := &dice{32}, longBase(), streamSieves(t), map[int64]int{}, 0
	for n := range 2200 {
		if n == 900 {
			sieves = lively(sieves)
		}
		l := luckyAsk(d, b, sieves, 1+n%impl.MaxSieves)
		// More rows than these are asked for at MaxMade.
		if len(impl.Meant(b, l).Rows) > 30 {
			continue
		}
		got := wantPromise14(t, b, l)
		if ends[got.Fault]++; impl.Flows(l) && len(got.Rows) > 1 && len(l) > 2 {
			flows++
		}
	}
	if flows < 100 {
		t.Errorf("%d of them flow: too few to tell", flows)
	}
	for fault := range int64(impl.FtMany) {
		if ends[fault] < 40 {
			t.Errorf("the fault %d comes %d times: too few to tell", fault, ends[fault])
		}
	}
}

// Where it does not Flow less that goes in may make others come out.
func TestWhereItDoesNotFlow(t *testing.T) {
	for _, s := range []string{"from t | order b down", "from t | group", "from t | keep a | let i = 5 | keep i | group i", "from t | keep a | let i = a | keep i | join t on yes", "from t | order b down | limit 1 0"} {
		l := askFrom(t, s)
		less, all := impl.Meant(impl.Shortened(streamBase(), "t", 2), l), impl.Meant(streamBase(), l)
		if impl.Flows(l) || isBeginning(less, all) {
			t.Errorf("%s: Flows %v; %s of less, %s of all", s, impl.Flows(l), shownStream(less), shownStream(all))
		}
	}
}

// A givenPull is all that the five of this chapter are given.
type givenPull struct {
	b base
	l ask
}

func (g givenPull) roomy() givenPull { return givenPull{roomyBase(g.b), roomyAsk(g.l)} }

func (g givenPull) whole() givenPull { return givenPull{wholeBase(g.b), wholeAsk(g.l)} }

func sameGivenPull(a givenPull, b givenPull) bool {
	return reflect.DeepEqual(a.b, b.b) && slices.EqualFunc(a.l, b.l, sameSieve)
}

// A pulled is all that the five answer, twice each: Next at several places.
type pulled struct {
	streams []stream
	bases   []base
}

func (g givenPull) answers() pulled {
	out, names := pulled{}, []string{"q"}
	for _, x := range g.b {
		names = append(names, x.Name)
	}
	for range 2 {
		out.streams = append(out.streams, impl.PullAll(g.b, g.l), impl.PullSome(g.b, g.l, 2), impl.PullSome(g.b, g.l, 1000), impl.PullSome(g.b, g.l, 1001))
		for at := range int64(4) {
			one, other := nextOf(g.b, g.l, cursorAt(at)), nextOf(g.b, g.l, overAt(at))
			out.streams = append(out.streams, stream{Rows: []row{one.row}}, stream{Rows: []row{other.row}})
		}
		for _, name := range names {
			out.bases = append(out.bases, impl.Shortened(g.b, name, 1), impl.Shortened(g.b, name, 60))
		}
		impl.Flows(g.l)
	}
	return out
}

func (p pulled) spans() []span {
	out := []span{}
	for i, x := range p.streams {
		out = append(out, streamSpans(fmt.Sprint("answer ", i), x)...)
	}
	for i, b := range p.bases {
		out = append(out, baseSpans(fmt.Sprint("base ", i), b)...)
	}
	return out
}

func (p pulled) copied() pulled {
	out := pulled{}
	for _, x := range p.streams {
		out.streams = append(out.streams, copiedStream(x))
	}
	for _, b := range p.bases {
		out.bases = append(out.bases, shapedLike(b))
	}
	return out
}

// shapedLike is the same base in memory of its own.
func shapedLike(b base) base {
	out := base{}
	for _, x := range b {
		out = append(out, impl.Table{Name: x.Name, Columns: slices.Clone(x.Columns), Rows: copiedStream(stream{Rows: x.Rows}).Rows})
	}
	return out
}

func samePulled(a pulled, b pulled) bool {
	sameTable := func(x impl.Table, y impl.Table) bool {
		return x.Name == y.Name && slices.Equal(x.Columns, y.Columns) && sameStream(stream{Rows: x.Rows}, stream{Rows: y.Rows})
	}
	sameBase := func(x base, y base) bool { return slices.EqualFunc(x, y, sameTable) }
	return slices.EqualFunc(a.streams, b.streams, sameStream) && slices.EqualFunc(a.bases, b.bases, sameBase)
}

// wantNewPulls: all five leave what they are given, with its spare room, as it
// is, and no list of their answers shares memory with any other one.
func wantNewPulls(t *testing.T, g givenPull) {
	t.Helper()
	name, before, answers := shownAsk(g.l), g.whole(), g.answers()
	wantApart(t, name, answers.spans(), slices.Concat(baseSpans("the base", g.b), askSpans("the question", g.l)))
	if !sameGivenPull(before, g.whole()) {
		t.Errorf("%s: one of the five writes into what it was given", name)
	}
	want := answers.copied()
	for i, x := range answers.streams {
		scribbleStream(x)
		if !slices.EqualFunc(answers.streams[i+1:], want.streams[i+1:], sameStream) {
			t.Errorf("%s: answer %d shares memory with another one", name, i)
		}
	}
	if !samePulled(pulled{bases: answers.bases}, pulled{bases: want.bases}) {
		t.Errorf("%s: a base shares memory with a stream", name)
	}
	for i, b := range answers.bases {
		for k := range b {
			scribbleTable(b[k])
			b[k] = impl.Table{}
		}
		if !samePulled(pulled{bases: answers.bases[i+1:]}, pulled{bases: want.bases[i+1:]}) {
			t.Errorf("%s: base %d shares memory with another one", name, i)
		}
	}
	if !sameGivenPull(before, g.whole()) {
		t.Errorf("%s: an answer shares memory with what was given", name)
	}
	if again := g.answers(); !samePulled(again, want) {
		t.Errorf("%s: asked once more it answers another one", name)
	}
}

func TestPullsAreNewMemory(t *testing.T) {
	for _, from := range []string{"e", "m", "t", "u", "x"} {
		wantNewPulls(t, givenPull{streamBase(), askFrom(t, "from "+from)}.roomy())
	}
	for _, piece := range streamPieces() {
		for _, from := range []string{"t", "u", "m"} {
			wantNewPulls(t, givenPull{streamBase(), askFrom(t, "from "+from+" | "+piece)}.roomy())
		}
		wantNewPulls(t, givenPull{streamBase(), askFrom(t, "from t | left u on c = a | "+piece+" | limit 3 0")}.roomy())
	}
}

func TestRefusedPullsAreNewMemory(t *testing.T) {
	for _, wrong := range oneWrong() {
		wantNewPulls(t, givenPull{streamBase(), ask{fromSieve("t").sieve, wrong}}.roomy())
	}
	for name, b := range wrongBases() {
		if len(b) < 10 && !strings.Contains(name, "between") {
			wantNewPulls(t, givenPull{b, askFrom(t, "from t | keep a | order a")}.roomy())
		}
	}
}

// What shares memory where it is given does not in the answers.
func TestPullsOfRowsThatShareMemory(t *testing.T) {
	cells, names := row{number(4), number(2), number(4), number(1)}, []string{"a", "b", "c", "d"}
	rows := []row{cells[0:2], cells[1:3], cells[0:2], cells[2:4]}
	b := base{{Name: "t", Columns: names[:2], Rows: rows}, {Name: "u", Columns: names[2:], Rows: rows[1:3]}}
	for _, piece := range []string{"where b < a", "where yes", "let x = a", "keep b a", "keep a b", "join u on c < a", "left u on c = a", "left u on no", "group a", "group", "order a", "order b down", "limit 3 1", "limit 9 0", "once"} {
		wantNewPulls(t, givenPull{b, askFrom(t, "from t | "+piece)})
		wantNewPulls(t, givenPull{b, askFrom(t, "from t | "+piece+" | limit 9 0 | once")})
		wantPromise14(t, b, askFrom(t, "from t | "+piece))
	}
	wantNewPulls(t, givenPull{b, askFrom(t, "from t")})
	if !slices.Equal(cells, row{number(4), number(2), number(4), number(1)}) || !slices.Equal(names, letters(4)) {
		t.Errorf("one of the five writes into %v or %q", cells, names)
	}
}
