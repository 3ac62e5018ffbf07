package tests

import (
	"testing"

	"loop.example/g00536/impl"
)

func threeAnswers() []impl.Cell { return []impl.Cell{truth(0), {}, truth(1)} }

func threeOps() map[string]cellOp {
	return map[string]cellOp{"Both": impl.Both, "Either": impl.Either}
}

func wantCell(t *testing.T, name string, want impl.Cell, c impl.Cell, fault int64) {
	t.Helper()
	if c != want || fault != impl.FtNone {
		t.Errorf("%s: %+v, %d; want %+v, %d", name, c, fault, want, impl.FtNone)
	}
}

func wantKindFault(t *testing.T, name string, c impl.Cell, fault int64) {
	t.Helper()
	if c != (impl.Cell{}) || fault != impl.FtKind {
		t.Errorf("%s: %+v, %d; want the zero Cell and FtKind", name, c, fault)
	}
}

func TestBothAndEitherOfEachPair(t *testing.T) {
	no, none, yes := truth(0), impl.Cell{}, truth(1)
	cases := []struct{ a, b, both, either impl.Cell }{
		{no, no, no, no}, {no, none, no, none}, {no, yes, no, yes},
		{none, no, no, none}, {none, none, none, none}, {none, yes, none, yes},
		{yes, no, no, yes}, {yes, none, none, yes}, {yes, yes, yes, yes},
	}
	for _, x := range cases {
		c, f := impl.Both(x.a, x.b)
		wantCell(t, "Both", x.both, c, f)
		c, f = impl.Either(x.a, x.b)
		wantCell(t, "Either", x.either, c, f)
	}
}

func TestNotOfEach(t *testing.T) {
	cases := [][2]impl.Cell{{truth(0), truth(1)}, {truth(1), truth(0)}, {{}, {}}}
	for _, x := range cases {
		c, f := impl.Not(x[0])
		wantCell(t, "Not", x[1], c, f)
	}
}

// told is the answer alone, of what must not fail.
func told(t *testing.T, c impl.Cell, fault int64) impl.Cell {
	t.Helper()
	if fault != impl.FtNone {
		t.Errorf("%+v has fault %d", c, fault)
	}
	return c
}

func notOf(t *testing.T, a impl.Cell) impl.Cell {
	t.Helper()
	c, f := impl.Not(a)
	return told(t, c, f)
}

func opOf(t *testing.T, op cellOp, a impl.Cell, b impl.Cell) impl.Cell {
	t.Helper()
	c, f := op(a, b)
	return told(t, c, f)
}

// Promise 2: Not of Both is Either of Nots, and the other way round.
func TestPromise2NotOfBoth(t *testing.T) {
	for _, a := range threeAnswers() {
		for _, b := range threeAnswers() {
			if notOf(t, opOf(t, impl.Both, a, b)) != opOf(t, impl.Either, notOf(t, a), notOf(t, b)) {
				t.Errorf("Not of Both of %+v and %+v is not Either of Nots", a, b)
			}
			if notOf(t, opOf(t, impl.Either, a, b)) != opOf(t, impl.Both, notOf(t, a), notOf(t, b)) {
				t.Errorf("Not of Either of %+v and %+v is not Both of Nots", a, b)
			}
		}
		if notOf(t, notOf(t, a)) != a {
			t.Errorf("Not of Not of %+v is another one", a)
		}
	}
}

// Promise 2: threeAnswers has nobody knows between no and yes; Both is the
// lesser of two, Either the greater one.
func TestPromise2NobodyKnowsIsBetween(t *testing.T) {
	list := threeAnswers()
	for i, a := range list {
		for k, b := range list {
			c, f := impl.Both(a, b)
			wantCell(t, "Both", list[min(i, k)], c, f)
			c, f = impl.Either(a, b)
			wantCell(t, "Either", list[max(i, k)], c, f)
		}
		if notOf(t, a) != list[2-i] {
			t.Errorf("Not of %+v is not as far from the other end", a)
		}
	}
}

func TestIsNoneOfEachKind(t *testing.T) {
	cases := []struct{ a, want impl.Cell }{
		{impl.Cell{}, truth(1)}, {number(0), truth(0)}, {number(-topNumber), truth(0)}, {number(topNumber), truth(0)},
		{text(""), truth(0)}, {text("none"), truth(0)}, {text("abcdefghijkl"), truth(0)}, {truth(0), truth(0)}, {truth(1), truth(0)},
	}
	for _, x := range cases {
		c, f := impl.IsNone(x.a)
		wantCell(t, "IsNone", x.want, c, f)
	}
}

func TestIsNoneOfWrongCells(t *testing.T) {
	for _, a := range wrongCells() {
		c, f := impl.IsNone(a)
		wantKindFault(t, "IsNone", c, f)
	}
}

func TestHoldsOfTheTruthOneAlone(t *testing.T) {
	if !impl.Holds(truth(1)) {
		t.Error("the truth 1 holds")
	}
	others := append(wrongCells(), impl.Cell{}, truth(0), number(0), number(1), number(topNumber), text(""), text("yes"))
	for _, a := range others {
		if impl.Holds(a) {
			t.Errorf("%+v does not hold", a)
		}
	}
}

// No answer is known so early that what stands beside it is not looked at.
func TestKindsThatAreNoAnswer(t *testing.T) {
	others := append(wrongCells(), number(0), number(1), number(-1), text(""), text("yes"))
	beside := append(threeAnswers(), others...)
	for _, a := range others {
		c, f := impl.Not(a)
		wantKindFault(t, "Not", c, f)
		for name, op := range threeOps() {
			for _, b := range beside {
				c, f := op(a, b)
				wantKindFault(t, name, c, f)
				c, f = op(b, a)
				wantKindFault(t, name, c, f)
			}
		}
	}
}
