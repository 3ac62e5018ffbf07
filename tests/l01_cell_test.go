package tests

import (
	"math"
	"strings"
	"testing"

	"loop.example/g00536/impl"
)

const topNumber = 1000000000

type cellOp func(impl.Cell, impl.Cell) (impl.Cell, int64)

func number(n int64) impl.Cell { return impl.Cell{Kind: impl.CeNumber, Number: n} }

func text(s string) impl.Cell { return impl.Cell{Kind: impl.CeText, Text: s} }

func truth(n int64) impl.Cell { return impl.Cell{Kind: impl.CeTruth, Number: n} }

func inRange(n int64) bool { return -topNumber <= n && n <= topNumber }

func cellOps() map[string]cellOp {
	return map[string]cellOp{"Plus": impl.Plus, "Less": impl.Less, "Times": impl.Times, "By": impl.By}
}

// someNumbers has the edges, where products come near the limit, and a spread
// between them.
func someNumbers() []int64 {
	list := []int64{
		-topNumber, -topNumber + 1, -topNumber / 2, -topNumber/2 - 1, topNumber / 2, topNumber/2 + 1, topNumber - 1, topNumber,
		-31623, -31622, 31622, 31623, 40000, -40000, 99999, 100000, 100001,
	}
	for n := int64(-12); n <= 12; n++ {
		list = append(list, n)
	}
	for n := int64(7); n < topNumber; n = n*7 + 3 {
		list = append(list, n, -n)
	}
	return list
}

func wrongCells() []impl.Cell {
	return []impl.Cell{
		{Kind: -1}, {Kind: 4}, {Kind: 5, Number: 1}, {Kind: math.MaxInt64}, {Kind: math.MinInt64}, {Kind: 257, Number: 1},
		{Kind: impl.CeNone, Number: 1}, {Kind: impl.CeNone, Number: -1}, {Kind: impl.CeNone, Text: "a"},
		{Kind: impl.CeNumber, Number: 1, Text: "a"}, {Kind: impl.CeNumber, Text: " "},
		number(topNumber + 1), number(-topNumber - 1), number(math.MaxInt64), number(math.MinInt64),
		number(4000000000), number(-4000000000), number(1 << 32), number(1<<32 + 1),
		{Kind: impl.CeText, Number: 1}, {Kind: impl.CeText, Number: -1, Text: "a"},
		text("aaaaaaaaaaaaa"), text("A"), text("a b"), text("é"), text("ab\x00"), text("abcdefghijk\n"),
		truth(2), truth(-1), truth(math.MaxInt64), truth(math.MinInt64),
		{Kind: impl.CeTruth, Number: 1, Text: "a"}, {Kind: impl.CeTruth, Text: "yes"},
	}
}

func TestCellOkOfRightCells(t *testing.T) {
	right := []impl.Cell{
		{}, number(0), number(1), number(-1), number(topNumber), number(-topNumber),
		text(""), text("a"), text("z"), text("abcdefghijkl"), text("zzzzzzzzzzzz"), truth(0), truth(1),
	}
	for _, c := range right {
		if !impl.CellOk(c) {
			t.Errorf("%+v is a right cell", c)
		}
	}
}

func TestCellOkOfWrongCells(t *testing.T) {
	for _, c := range wrongCells() {
		if impl.CellOk(c) {
			t.Errorf("%+v is no right cell", c)
		}
	}
}

func TestCellOkOfEachByte(t *testing.T) {
	for n := range 256 {
		b := string([]byte{byte(n)})
		want := n >= 'a' && n <= 'z'
		for _, s := range []string{b, b + "m", "m" + b, "abcdefghijk" + b} {
			if impl.CellOk(text(s)) != want {
				t.Errorf("text %q: want %v", s, want)
			}
		}
	}
}

func TestCellOkOfEachLength(t *testing.T) {
	for n := range 40 {
		if s := strings.Repeat("q", n); impl.CellOk(text(s)) != (n <= 12) {
			t.Errorf("text of %d bytes: want %v", n, n <= 12)
		}
	}
}

// wantNumber: n where a cell may have it, else FtOver.
func wantNumber(t *testing.T, name string, op cellOp, a int64, b int64, n int64) {
	t.Helper()
	want, wantFault := number(n), int64(impl.FtNone)
	if !inRange(n) {
		want, wantFault = impl.Cell{}, impl.FtOver
	}
	if c, f := op(number(a), number(b)); c != want || f != wantFault {
		t.Errorf("%s of %d and %d: %+v, %d; want %+v, %d", name, a, b, c, f, want, wantFault)
	}
}

func TestReckoningOfNumbers(t *testing.T) {
	for _, a := range someNumbers() {
		for _, b := range someNumbers() {
			wantNumber(t, "Plus", impl.Plus, a, b, a+b)
			wantNumber(t, "Less", impl.Less, a, b, a-b)
			wantNumber(t, "Times", impl.Times, a, b, a*b)
			if b != 0 {
				wantNumber(t, "By", impl.By, a, b, a/b)
			}
		}
	}
}

// Promise 1: one deed is undone by the other, where nothing is too great.
func TestPromise1BackAndForth(t *testing.T) {
	for _, a := range someNumbers() {
		for _, b := range someNumbers() {
			if inRange(a + b) {
				wantBack(t, "Less of Plus", impl.Plus, impl.Less, a, b)
				wantAlike(t, "Plus", impl.Plus, a, b)
			}
			if inRange(a - b) {
				wantBack(t, "Plus of Less", impl.Less, impl.Plus, a, b)
			}
			if inRange(a * b) {
				wantAlike(t, "Times", impl.Times, a, b)
			}
			if inRange(a*b) && b != 0 {
				wantBack(t, "By of Times", impl.Times, impl.By, a, b)
			}
		}
	}
}

func wantBack(t *testing.T, name string, forth cellOp, back cellOp, a int64, b int64) {
	t.Helper()
	c, f := forth(number(a), number(b))
	if f != impl.FtNone {
		t.Errorf("%s, of %d and %d: forth has fault %d", name, a, b, f)
	}
	if d, f := back(c, number(b)); d != number(a) || f != impl.FtNone {
		t.Errorf("%s, of %d and %d: back is %+v, %d", name, a, b, d, f)
	}
}

func wantAlike(t *testing.T, name string, op cellOp, a int64, b int64) {
	t.Helper()
	c, f := op(number(a), number(b))
	d, g := op(number(b), number(a))
	if c != d || f != impl.FtNone || g != impl.FtNone {
		t.Errorf("%s of %d and %d: %+v, %d, the other way round %+v, %d", name, a, b, c, f, d, g)
	}
}

// Promise 1, where something is too great: one past each edge is refused, the
// edge itself is not.
func TestPromise1AtTheEdges(t *testing.T) {
	cases := []struct {
		name  string
		op    cellOp
		a, b  int64
		want  int64
		fault int64
	}{
		{"Plus", impl.Plus, topNumber - 1, 1, topNumber, impl.FtNone},
		{"Plus", impl.Plus, topNumber, 1, 0, impl.FtOver},
		{"Plus", impl.Plus, -topNumber, -1, 0, impl.FtOver},
		{"Plus", impl.Plus, -topNumber, topNumber, 0, impl.FtNone},
		{"Plus", impl.Plus, topNumber, topNumber, 0, impl.FtOver},
		{"Less", impl.Less, 1 - topNumber, 1, -topNumber, impl.FtNone},
		{"Less", impl.Less, -topNumber, 1, 0, impl.FtOver},
		{"Less", impl.Less, topNumber, -1, 0, impl.FtOver},
		{"Less", impl.Less, 0, -topNumber, topNumber, impl.FtNone},
		{"Less", impl.Less, -topNumber, topNumber, 0, impl.FtOver},
		{"Times", impl.Times, topNumber, -1, -topNumber, impl.FtNone},
		{"Times", impl.Times, 100000, 10000, topNumber, impl.FtNone},
		{"Times", impl.Times, -100000, 10000, -topNumber, impl.FtNone},
		{"Times", impl.Times, 20, 50000001, 0, impl.FtOver},
		{"Times", impl.Times, topNumber, topNumber, 0, impl.FtOver},
		{"Times", impl.Times, -topNumber, topNumber, 0, impl.FtOver},
		{"Times", impl.Times, 142857143, 7, 0, impl.FtOver},
		{"Times", impl.Times, -142857143, 7, 0, impl.FtOver},
		{"By", impl.By, topNumber, -1, -topNumber, impl.FtNone},
		{"By", impl.By, -topNumber, topNumber, -1, impl.FtNone},
	}
	for _, x := range cases {
		want := number(x.want)
		if x.fault != impl.FtNone {
			want = impl.Cell{}
		}
		if c, f := x.op(number(x.a), number(x.b)); c != want || f != x.fault {
			t.Errorf("%s of %d and %d: %+v, %d; want %+v, %d", x.name, x.a, x.b, c, f, want, x.fault)
		}
	}
}

func TestByGoesTowardsZero(t *testing.T) {
	cases := [][3]int64{
		{7, 2, 3}, {-7, 2, -3}, {7, -2, -3}, {-7, -2, 3}, {1, 2, 0}, {-1, 2, 0}, {1, -2, 0}, {-1, -2, 0},
		{0, 5, 0}, {0, -5, 0}, {-6, 3, -2}, {-topNumber, 3, -333333333}, {-(topNumber - 1), topNumber, 0},
	}
	for _, x := range cases {
		if c, f := impl.By(number(x[0]), number(x[1])); c != number(x[2]) || f != impl.FtNone {
			t.Errorf("%d by %d: %+v, %d; want %d", x[0], x[1], c, f, x[2])
		}
	}
}

func TestByOfZero(t *testing.T) {
	for _, a := range someNumbers() {
		if c, f := impl.By(number(a), number(0)); c != (impl.Cell{}) || f != impl.FtZero {
			t.Errorf("%d by 0: %+v, %d", a, c, f)
		}
	}
}

func TestNoneBesideNoneAndNumbers(t *testing.T) {
	none := impl.Cell{}
	for name, op := range cellOps() {
		for _, c := range []impl.Cell{none, number(0), number(1), number(-topNumber), number(topNumber)} {
			if d, f := op(none, c); d != none || f != impl.FtNone {
				t.Errorf("%s of none and %+v: %+v, %d", name, c, d, f)
			}
			if d, f := op(c, none); d != none || f != impl.FtNone {
				t.Errorf("%s of %+v and none: %+v, %d", name, c, d, f)
			}
		}
	}
}

// FtKind goes ahead of FtZero and FtOver, and nothing wrong is hidden by a
// CeNone beside it.
func TestKindsThatAreNotReckonedWith(t *testing.T) {
	others := append(wrongCells(), text(""), text("a"), truth(0), truth(1))
	beside := append([]impl.Cell{{}, number(0), number(1), number(-1), number(topNumber), number(-topNumber)}, others...)
	for name, op := range cellOps() {
		for _, a := range others {
			for _, b := range beside {
				if c, f := op(a, b); c != (impl.Cell{}) || f != impl.FtKind {
					t.Errorf("%s of %+v and %+v: %+v, %d", name, a, b, c, f)
				}
				if c, f := op(b, a); c != (impl.Cell{}) || f != impl.FtKind {
					t.Errorf("%s of %+v and %+v: %+v, %d", name, b, a, c, f)
				}
			}
		}
	}
}
