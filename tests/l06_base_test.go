package tests

import (
	"fmt"
	"reflect"
	"slices"
	"strings"
	"testing"

	"loop.example/g00536/impl"
)

type base = []impl.Table

func namedTable(name string, width int, count int) impl.Table {
	x := mixedTable(width, count)
	x.Name = name
	return x
}

// baseOf has a Table of each name, in that order, no two with as many rows.
func baseOf(names ...string) base {
	out := base{}
	for i, name := range names {
		out = append(out, namedTable(name, i%impl.MaxColumns+1, (i*3+2)%impl.MaxRows))
	}
	return out
}

func rightBases() map[string]base {
	list := map[string]base{
		"none, nil":       nil,
		"none":            {},
		"one":             baseOf("t"),
		"two":             baseOf("d", "u"),
		"three":           baseOf("d", "m", "u"),
		"four":            baseOf("c", "g", "m", "u"),
		"as many as may":  baseOf("c", "g", "m", "u", "w"),
		"near names":      baseOf("a", "aa", "ab", "b"),
		"short and long":  baseOf("aaaaaa", "b", "ba", "zzzzzy", "zzzzzz"),
		"one long behind": baseOf("z", "zaaaaa"),
		"words of sums":   baseOf("and", "lacks", "none", "or", "yes"),
		"without rows":    {namedTable("c", 1, 0), namedTable("d", 6, 0), namedTable("e", 2, 0)},
		"with and without": {
			namedTable("c", 3, 0), namedTable("d", 3, 4), namedTable("e", 3, 0), namedTable("f", 2, 1),
		},
		"alike but for names": {namedTable("c", 2, 3), namedTable("d", 2, 3), namedTable("e", 2, 3)},
		"full": {
			namedTable("b", 6, impl.MaxRows), namedTable("c", 6, impl.MaxRows), namedTable("d", 1, impl.MaxRows),
			namedTable("e", 6, impl.MaxRows), namedTable("f", 6, impl.MaxRows),
		},
	}
	for name, x := range rightTables() {
		list["alone: "+name] = base{x}
	}
	return list
}

// disorders are bases but for the order or the number of their names.
func disorders() map[string]base {
	many := base{}
	for i := range 3000 {
		many = append(many, namedTable(fmt.Sprintf("%c%c%c", 'a'+i/676, 'a'+i/26%26, 'a'+i%26), 1, 1))
	}
	return map[string]base{
		"one too many":              baseOf("a", "b", "c", "d", "e", "f"),
		"one too many, no rows":     {namedTable("a", 1, 0), namedTable("b", 1, 0), namedTable("c", 1, 0), namedTable("d", 1, 0), namedTable("e", 1, 0), namedTable("f", 1, 0)},
		"two too many":              baseOf("a", "b", "c", "d", "e", "f", "g"),
		"too many, the last alike":  baseOf("a", "b", "c", "d", "e", "e"),
		"too many, the last falls":  baseOf("a", "b", "c", "d", "f", "e"),
		"many":                      many,
		"two alike":                 baseOf("t", "t"),
		"one twice":                 {namedTable("t", 1, 1), namedTable("t", 1, 1)},
		"the first two alike":       baseOf("a", "a", "b"),
		"the last two alike":        baseOf("a", "b", "b"),
		"the last of five alike":    baseOf("a", "b", "c", "d", "d"),
		"first and last alike":      baseOf("b", "c", "b"),
		"all alike":                 baseOf("a", "a", "a", "a", "a"),
		"two fall":                  baseOf("u", "t"),
		"all fall":                  baseOf("e", "d", "c", "b", "a"),
		"the first falls":           baseOf("b", "a", "c"),
		"the middle falls":          baseOf("a", "c", "b", "d"),
		"the last falls":            baseOf("b", "c", "a"),
		"the last of five falls":    baseOf("a", "b", "c", "e", "d"),
		"a longer one ahead":        baseOf("aa", "a"),
		"shorter ones ahead":        baseOf("a", "b", "aa"),
		"as if length ranked first": baseOf("z", "aaaaaa"),
	}
}

// wrongBases are disorders, and each wrong Table alone, and some of these
// ahead of, between and behind right ones.
func wrongBases() map[string]base {
	list := disorders()
	for name, x := range wrongTables() {
		list["alone: "+name] = base{x}
		list["ahead: "+name] = append(base{x}, baseOf("y", "z")...)
		list["behind: "+name] = append(baseOf("a", "b"), x)
		list["between: "+name] = append(append(baseOf("a", "b"), x), baseOf("y", "z")...)
	}
	return list
}

// someNames are names of the bases here, names near these, and texts that are
// no names.
func someNames() []string {
	return append(wrongNames(), "a", "b", "c", "d", "e", "f", "m", "t", "u", "w", "z", "aa", "ab", "aaaaaa", "zzzzzz", "none", "tt", "qqqqqq")
}

func wantBase(t *testing.T, name string, want base, got base) {
	t.Helper()
	if len(got) != len(want) {
		t.Errorf("%s: %d tables; want %d: %+v", name, len(got), len(want), got)
		return
	}
	for i := range want {
		wantTable(t, fmt.Sprint(name, ", table ", i), want[i], got[i])
	}
}

func wantMade(t *testing.T, name string, b base, table string, columns []string, want base, is bool) {
	t.Helper()
	got, done := impl.Made(b, table, columns)
	if done != is {
		t.Errorf("%s: Made of %q %q says %v; want %v", name, table, columns, done, is)
	}
	wantBase(t, fmt.Sprintf("%s, Made of %q", name, table), want, got)
}

func wantDropped(t *testing.T, name string, b base, table string, want base, is bool) {
	t.Helper()
	got, done := impl.Dropped(b, table)
	if done != is {
		t.Errorf("%s: Dropped of %q says %v; want %v", name, table, done, is)
	}
	wantBase(t, fmt.Sprintf("%s, Dropped of %q", name, table), want, got)
}

func wantReplaced(t *testing.T, name string, b base, x impl.Table, want base, is bool) {
	t.Helper()
	got, done := impl.Replaced(b, x)
	if done != is {
		t.Errorf("%s: Replaced of %q says %v; want %v", name, x.Name, done, is)
	}
	wantBase(t, fmt.Sprintf("%s, Replaced of %q", name, x.Name), want, got)
}

func wantIn(t *testing.T, name string, b base, table string, want impl.Table, is bool) {
	t.Helper()
	got, found := impl.TableIn(b, table)
	if found != is {
		t.Errorf("%s: TableIn of %q says %v; want %v", name, table, found, is)
	}
	wantTable(t, fmt.Sprintf("%s, TableIn of %q", name, table), want, got)
}

func placeIn(b base, name string) int {
	return slices.IndexFunc(b, func(x impl.Table) bool { return x.Name == name })
}

// withTable is the base with x ahead of the first one of a greater Name.
func withTable(b base, x impl.Table) base {
	at := 0
	for at < len(b) && b[at].Name < x.Name {
		at++
	}
	return slices.Insert(slices.Clone(b), at, x)
}

func withoutPlace(b base, at int) base {
	return slices.Delete(slices.Clone(b), at, at+1)
}

func TestBaseOkOfRightBases(t *testing.T) {
	for name, b := range rightBases() {
		if !impl.BaseOk(b) {
			t.Errorf("%s: it is a base", name)
		}
	}
}

func TestBaseOkOfWrongBases(t *testing.T) {
	for name, b := range wrongBases() {
		if impl.BaseOk(b) {
			t.Errorf("%s: it is no base", name)
		}
	}
}

func TestBaseOkOfEachSize(t *testing.T) {
	for n := range 20 {
		if want := n <= 5; impl.BaseOk(baseOf(letters(n)...)) != want {
			t.Errorf("BaseOk of %d tables: want %v", n, want)
		}
	}
}

// Of any names in any order it is a base just where each one is greater than
// the one ahead.
func TestBaseOkOfEachOrder(t *testing.T) {
	names := []string{"a", "aa", "ab", "b", "za"}
	for n := range 5 * 5 * 5 * 5 {
		list := []string{names[n%5], names[n/5%5], names[n/25%5], names[n/125]}
		want := list[0] < list[1] && list[1] < list[2] && list[2] < list[3]
		if impl.BaseOk(baseOf(list...)) != want {
			t.Errorf("BaseOk of %q: want %v", list, want)
		}
	}
}

func TestBaseOkOfOneWrongTableAnywhere(t *testing.T) {
	for at := range impl.MaxTables {
		b := baseOf(letters(impl.MaxTables)...)
		b[at].Columns = nil
		if impl.BaseOk(b) {
			t.Errorf("table %d has no columns", at)
		}
		b = baseOf(letters(impl.MaxTables)...)
		b[at].Rows[len(b[at].Rows)-1][0] = truth(2)
		if impl.BaseOk(b) {
			t.Errorf("table %d has a wrong cell", at)
		}
	}
}

func TestTableInOfEachTable(t *testing.T) {
	for name, b := range rightBases() {
		for _, x := range b {
			wantIn(t, name, b, x.Name, x, true)
		}
	}
}

func TestTableInOfAFirstALastAndAMissingName(t *testing.T) {
	b := baseOf("d", "m", "u")
	wantIn(t, "first", b, "d", b[0], true)
	wantIn(t, "last", b, "u", b[2], true)
	for _, missing := range []string{"a", "e", "z", "dd", "", "D", " d", "d "} {
		wantIn(t, "missing", b, missing, impl.Table{}, false)
	}
}

func TestTableInOfNamesThatAreNotThere(t *testing.T) {
	for name, b := range rightBases() {
		for _, missing := range someNames() {
			if placeIn(b, missing) < 0 {
				wantIn(t, name, b, missing, impl.Table{}, false)
			}
		}
	}
}

func TestMadeAheadBetweenAndBehind(t *testing.T) {
	b := baseOf("d", "m")
	made := func(name string) impl.Table { return impl.Table{Name: name, Columns: []string{"x", "y"}} }
	wantMade(t, "ahead", b, "a", []string{"x", "y"}, base{made("a"), b[0], b[1]}, true)
	wantMade(t, "between", b, "e", []string{"x", "y"}, base{b[0], made("e"), b[1]}, true)
	wantMade(t, "right behind", b, "dd", []string{"x", "y"}, base{b[0], made("dd"), b[1]}, true)
	wantMade(t, "behind", b, "z", []string{"x", "y"}, base{b[0], b[1], made("z")}, true)
	wantMade(t, "among none", nil, "t", []string{"x", "y"}, base{made("t")}, true)
	wantMade(t, "among none, empty", base{}, "t", []string{"x", "y"}, base{made("t")}, true)
}

// Promise 6: what was Made is there, empty, under its columns; all else is as
// it was, and in the same order.
func TestPromise6WhatWasMadeIsThere(t *testing.T) {
	for name, b := range rightBases() {
		for _, table := range someNames() {
			for width := 1; width <= impl.MaxColumns; width++ {
				wantPromise6(t, fmt.Sprint(name, ", ", table, ", ", width), b, table, letters(width))
			}
		}
	}
}

func wantPromise6(t *testing.T, name string, b base, table string, columns []string) {
	t.Helper()
	x := impl.Table{Name: table, Columns: columns}
	if placeIn(b, table) >= 0 || len(b) == impl.MaxTables || !impl.TableOk(x) {
		wantMade(t, name, b, table, columns, b, false)
		return
	}
	wantMade(t, name, b, table, columns, withTable(b, x), true)
	made, _ := impl.Made(b, table, columns)
	if !impl.BaseOk(made) {
		t.Errorf("%s: what Made answers is no base", name)
	}
	wantIn(t, name, made, table, x, true)
	for _, other := range b {
		wantIn(t, name, made, other.Name, other, true)
	}
	wantDropped(t, name+", and back", made, table, b, true)
}

// In whatever order five are Made, it is the same base, and no other one is
// Made behind them.
func TestMadeInEachOrderUpToMaxTables(t *testing.T) {
	names := []string{"a", "b", "ba", "c", "zz"}
	want := base{}
	for i, name := range names {
		want = append(want, impl.Table{Name: name, Columns: letters(i + 1)})
	}
	for n := range 120 {
		left, b := []int{0, 1, 2, 3, 4}, base(nil)
		for size := 5; size > 0; size-- {
			at := n % size
			n /= size
			i := left[at]
			left = slices.Delete(left, at, at+1)
			made, done := impl.Made(b, names[i], letters(i+1))
			if !done || len(made) != len(b)+1 {
				t.Fatalf("Made of %q among %d: %v %+v", names[i], len(b), done, made)
			}
			b = made
		}
		wantBase(t, "all made", want, b)
		wantMade(t, "one more", b, "bb", letters(2), want, false)
	}
}

func TestMadeWhereThereIsNoRoom(t *testing.T) {
	b := baseOf("c", "g", "m", "u", "w")
	for _, table := range []string{"a", "d", "h", "p", "v", "z"} {
		wantMade(t, "no room", b, table, letters(1), b, false)
		wantMade(t, "no room, no columns", b, table, nil, b, false)
		wantMade(t, "room for it", b[:4], table, letters(1), withTable(b[:4], impl.Table{Name: table, Columns: letters(1)}), true)
	}
}

func TestMadeOfANameThatIsThere(t *testing.T) {
	for name, b := range rightBases() {
		for _, x := range b {
			wantMade(t, name+", other columns", b, x.Name, []string{"other"}, b, false)
			wantMade(t, name+", its columns", b, x.Name, x.Columns, b, false)
			wantMade(t, name+", no columns", b, x.Name, nil, b, false)
		}
	}
}

// Also where there is no room, what would not be right leaves all as it is.
func TestMadeOfWhatWouldNotBeRight(t *testing.T) {
	for name, b := range rightBases() {
		for _, table := range wrongNames() {
			wantMade(t, name, b, table, []string{"a"}, b, false)
			wantMade(t, name, b, table, nil, b, false)
			wantMade(t, name, b, "q", []string{table}, b, false)
			wantMade(t, name, b, "q", []string{table, "a"}, b, false)
			wantMade(t, name, b, "q", []string{"a", "b", table}, b, false)
		}
		for _, columns := range [][]string{nil, {}, {"a", "a"}, {"a", "b", "a"}, {"a", "b", "c", "d", "e", "e"}, letters(impl.MaxColumns + 1), letters(26), slices.Repeat([]string{"a"}, 3000)} {
			wantMade(t, name, b, "q", columns, b, false)
		}
	}
}

func TestDroppedOfAFirstAMiddleAndALast(t *testing.T) {
	b := baseOf("d", "m", "u")
	wantDropped(t, "first", b, "d", base{b[1], b[2]}, true)
	wantDropped(t, "middle", b, "m", base{b[0], b[2]}, true)
	wantDropped(t, "last", b, "u", base{b[0], b[1]}, true)
	wantDropped(t, "the only one", b[:1], "d", base{}, true)
}

func TestDroppedLeavesAllElse(t *testing.T) {
	for name, b := range rightBases() {
		for i, x := range b {
			wantDropped(t, name, b, x.Name, withoutPlace(b, i), true)
			left, _ := impl.Dropped(b, x.Name)
			if !impl.BaseOk(left) {
				t.Errorf("%s: what Dropped answers is no base", name)
			}
			wantIn(t, name, left, x.Name, impl.Table{}, false)
			wantDropped(t, name+", once more", left, x.Name, withoutPlace(b, i), false)
			wantMade(t, name+", made again", left, x.Name, x.Columns, withTable(withoutPlace(b, i), impl.Table{Name: x.Name, Columns: x.Columns}), true)
		}
	}
}

func TestDroppedOfNamesThatAreNotThere(t *testing.T) {
	for name, b := range rightBases() {
		for _, missing := range someNames() {
			if placeIn(b, missing) < 0 {
				wantDropped(t, name, b, missing, b, false)
			}
		}
	}
}

func TestReplacedByOtherColumnsAndOtherRows(t *testing.T) {
	b := baseOf("d", "m", "u")
	for i, name := range []string{"d", "m", "u"} {
		x := impl.Table{Name: name, Columns: []string{"new", "old", "a"}, Rows: []row{{number(7), {}, text("q")}, {{}, truth(1), {}}}}
		want := slices.Clone(b)
		want[i] = x
		wantReplaced(t, "other columns", b, x, want, true)
		put, _ := impl.Put(b[i], mixedRow(3, i+1))
		want[i] = put
		wantReplaced(t, "a row more", b, put, want, true)
		want[i] = impl.Table{Name: name, Columns: b[i].Columns}
		wantReplaced(t, "no rows", b, want[i], want, true)
		wantReplaced(t, "itself", b, b[i], b, true)
	}
}

func TestReplacedLeavesAllElse(t *testing.T) {
	for name, b := range rightBases() {
		for i, old := range b {
			for _, x := range rightTables() {
				x.Name = old.Name
				want := slices.Clone(b)
				want[i] = x
				wantReplaced(t, name, b, x, want, true)
				got, _ := impl.Replaced(b, x)
				if !impl.BaseOk(got) {
					t.Errorf("%s: what Replaced answers is no base", name)
				}
				wantIn(t, name, got, old.Name, x, true)
			}
		}
	}
}

func TestReplacedWhereThereIsNone(t *testing.T) {
	for name, b := range rightBases() {
		for _, missing := range someNames() {
			if placeIn(b, missing) < 0 {
				wantReplaced(t, name, b, namedTable(missing, 2, 3), b, false)
			}
		}
	}
}

func TestReplacedByAWrongTable(t *testing.T) {
	for name, b := range rightBases() {
		for what, x := range wrongTables() {
			wantReplaced(t, name+" by "+what, b, x, b, false)
			if strings.HasPrefix(what, "name ") {
				continue // renamed, it would be right
			}
			for _, old := range b {
				x.Name = old.Name
				wantReplaced(t, name+" by "+what, b, x, b, false)
			}
		}
	}
}

func wantShown(t *testing.T, name string, b base, want string) {
	t.Helper()
	if s := impl.ShowBase(b); s != want {
		t.Errorf("%s: ShowBase: %q; want %q", name, s, want)
	}
}

func TestShowBaseOfFewTables(t *testing.T) {
	one := impl.Table{Name: "t", Columns: []string{"a"}}
	two := impl.Table{Name: "u", Columns: []string{"n", "name", "x", "y"}, Rows: []row{
		{number(-12), text("ab"), {}, truth(1)}, {number(0), text(""), truth(0), {}}, {number(topNumber), number(-topNumber), text("abcdefghijkl"), {}},
	}}
	three := impl.Table{Name: "zzzzzz", Columns: []string{"b", "a"}, Rows: []row{{{}, {}}}}
	shown := "u n name x y:\n -12 'ab' none yes\n 0 '' no none\n 1000000000 -1000000000 'abcdefghijkl' none\n"
	wantShown(t, "without rows", base{one}, "t a:\n")
	wantShown(t, "with rows", base{two}, shown)
	wantShown(t, "all", base{one, two, three}, "t a:\n"+shown+"zzzzzz b a:\n none none\n")
	wantShown(t, "one without rows behind", base{two, {Name: "v", Columns: []string{"c", "d"}}}, shown+"v c d:\n")
}

func TestShowBaseOfNoTables(t *testing.T) {
	wantShown(t, "nil", nil, "")
	wantShown(t, "none", base{}, "")
	wantShown(t, "the last one dropped", func() base { b, _ := impl.Dropped(baseOf("t"), "t"); return b }(), "")
}

func TestShowBaseOfRightBases(t *testing.T) {
	for name, b := range rightBases() {
		want := ""
		for _, x := range b {
			want += x.Name
			for _, column := range x.Columns {
				want += " " + column
			}
			want += ":"
			for _, r := range x.Rows {
				want += "\n"
				for _, c := range r {
					want += " " + impl.CellText(c)
				}
			}
			want += "\n"
		}
		wantShown(t, name, b, want)
	}
}

// wantFirst: TableIn finds the first Table of that name, whatever the list,
// and none only where no Table has it.
func wantFirst(t *testing.T, name string, b base, table string) {
	t.Helper()
	if at := placeIn(b, table); at >= 0 {
		wantIn(t, name, b, table, b[at], true)
		return
	}
	wantIn(t, name, b, table, impl.Table{}, false)
}

func TestTableInOfListsThatAreNoBases(t *testing.T) {
	empty := func(name string) impl.Table { return namedTable(name, 1, 0) }
	six := base{empty("p"), empty("q"), empty("r"), empty("s"), empty("t"), empty("u")}
	for i, name := range []string{"p", "q", "r", "s", "t", "u"} {
		wantIn(t, "one too many", six, name, six[i], true)
	}
	wantIn(t, "one too many", six, "v", impl.Table{}, false)
	two, nameless := baseOf("t", "u"), namedTable("", 2, 1)
	for i, name := range []string{"t", "u"} {
		wantIn(t, "a wrong one ahead", base{nameless, two[0], two[1]}, name, two[i], true)
		wantIn(t, "a wrong one between", base{two[0], nameless, two[1]}, name, two[i], true)
		wantIn(t, "a wrong one behind", base{two[0], two[1], nameless}, name, two[i], true)
		wantIn(t, "names fall", base{two[0], two[1], empty("p")}, name, two[i], true)
		wantIn(t, "two others alike", base{two[0], two[1], empty("p"), empty("p")}, name, two[i], true)
	}
	wantIn(t, "the last two alike", base{two[0], two[1], empty("u")}, "t", two[0], true)
	wantIn(t, "a wrong one behind", base{two[0], two[1], nameless}, "v", impl.Table{}, false)
	wantIn(t, "names fall", base{two[0], two[1], empty("p")}, "v", impl.Table{}, false)
}

// Of two of that name it is the first one, and a Table that is not right
// itself is there as well.
func TestTableInOfTheFirstOfTwoAndOfAWrongTable(t *testing.T) {
	b := base{namedTable("t", 2, 3), namedTable("u", 1, 1), namedTable("t", 1, 0), namedTable("u", 3, 4)}
	wantIn(t, "the first of two", b, "t", b[0], true)
	wantIn(t, "the first of two", b, "u", b[1], true)
	for what, x := range wrongTables() {
		wantIn(t, what, base{x}, x.Name, x, true)
		wantIn(t, what+", between", base{namedTable("a", 1, 1), x, namedTable("z", 1, 1)}, x.Name, x, true)
	}
}

// What is no base goes ahead of all else: also of what is there, of what is
// not right, and of what there is no room for. TableIn alone asks for no base.
func TestAllAskedOfWrongBases(t *testing.T) {
	for name, b := range wrongBases() {
		wantShown(t, name, b, "")
		for _, table := range []string{"a", "b", "e", "q", "t", "u", "y", "z", "", "A", "abcdefg"} {
			wantFirst(t, name, b, table)
			wantMade(t, name, b, table, []string{"a", "b"}, nil, false)
			wantMade(t, name, b, table, nil, nil, false)
			wantDropped(t, name, b, table, nil, false)
			wantReplaced(t, name, b, namedTable(table, 2, 2), nil, false)
			wantReplaced(t, name, b, impl.Table{Name: table}, nil, false)
		}
		for _, x := range b[:min(len(b), 7)] {
			wantFirst(t, name, b, x.Name)
			wantMade(t, name, b, x.Name, x.Columns, nil, false)
			wantDropped(t, name, b, x.Name, nil, false)
			wantReplaced(t, name, b, x, nil, false)
		}
	}
}

// A span is the memory of one list with its spare room.
type span struct {
	what  string
	start uintptr
	end   uintptr
}

func spanOf(what string, list any) span {
	v := reflect.ValueOf(list)
	return span{what, v.Pointer(), v.Pointer() + uintptr(v.Cap())*v.Type().Elem().Size()}
}

func tableSpans(what string, x impl.Table) []span {
	out := []span{spanOf(what+", columns", x.Columns), spanOf(what+", rows", x.Rows)}
	for i, r := range x.Rows {
		out = append(out, spanOf(fmt.Sprint(what, ", row ", i), r))
	}
	return out
}

func baseSpans(what string, b base) []span {
	out := []span{spanOf(what, b)}
	for i, x := range b {
		out = append(out, tableSpans(fmt.Sprint(what, ", table ", i), x)...)
	}
	return out
}

// wantApart: no two lists of the answer share memory, and none does with a
// list that was given.
func wantApart(t *testing.T, name string, answer []span, given []span) {
	t.Helper()
	for i, a := range answer {
		for _, b := range slices.Concat(answer[i+1:], given) {
			if a.start < b.end && b.start < a.end {
				t.Errorf("%s: %s and %s share memory", name, a.what, b.what)
			}
		}
	}
}

// roomyBase is the same base, with spare room behind each of its lists.
func roomyBase(b base) base {
	out := base{}
	for _, x := range b {
		out = append(out, roomyTable(x))
	}
	return append(out, namedTable("spare", 1, 1), namedTable("zspare", 1, 0))[:len(b)]
}

// wholeBase tells all that is in a base and in the spare room behind its
// lists.
func wholeBase(b base) base {
	out := base{}
	for _, x := range b[:cap(b)] {
		out = append(out, wholeTable(x))
	}
	return out
}

// wantNewBases: the six functions leave all that they are given, with its
// spare room, as it is, and each answer is new memory.
func wantNewBases(t *testing.T, name string, b base, columns []string, x impl.Table) {
	t.Helper()
	beforeBase, beforeColumns, beforeTable := wholeBase(b), slices.Clone(columns[:cap(columns)]), wholeTable(x)
	in, _ := impl.TableIn(b, x.Name)
	made, _ := impl.Made(b, x.Name, columns)
	dropped, _ := impl.Dropped(b, x.Name)
	replaced, _ := impl.Replaced(b, x)
	given := append(append(baseSpans("the base", b), tableSpans("the table", x)...), spanOf("the columns", columns))
	wantApart(t, name+", TableIn", tableSpans("answer", in), given)
	wantApart(t, name+", Made", baseSpans("answer", made), given)
	wantApart(t, name+", Dropped", baseSpans("answer", dropped), given)
	wantApart(t, name+", Replaced", baseSpans("answer", replaced), given)
	again, _ := impl.Made(b, x.Name, columns)
	wantApart(t, name+", two answers", baseSpans("one", made), baseSpans("other", again))
	impl.BaseOk(b)
	impl.ShowBase(b)
	if !reflect.DeepEqual(beforeBase, wholeBase(b)) || !slices.Equal(beforeColumns, columns[:cap(columns)]) || !reflect.DeepEqual(beforeTable, wholeTable(x)) {
		t.Errorf("%s: one of the six writes into what it was given", name)
	}
}

func roomyColumns(columns []string) []string {
	return append(slices.Clone(columns), "spare", "room")[:len(columns)]
}

func TestTheBaseIsNewMemory(t *testing.T) {
	for name, b := range rightBases() {
		names := []string{"aaa", "q", "zzz", ""}
		for _, x := range b {
			names = append(names, x.Name)
		}
		for _, table := range names {
			wantNewBases(t, name+", "+table, roomyBase(b), roomyColumns([]string{"x", "y"}), roomyTable(namedTable(table, 2, 3)))
			wantNewBases(t, name+", wrong, "+table, roomyBase(b), roomyColumns([]string{"x", "x"}), roomyTable(impl.Table{Name: table}))
		}
	}
	for name, b := range wrongBases() {
		if len(b) < 10 {
			wantNewBases(t, name, roomyBase(b), roomyColumns([]string{"x"}), roomyTable(namedTable(b[0].Name, 2, 3)))
		}
	}
}

// What shares memory where it is given does not in the answer.
func TestTheBaseOfTablesThatShareMemory(t *testing.T) {
	cells, columns := row{number(4), number(2), number(4), number(1)}, []string{"a", "b", "c"}
	rows := []row{cells[0:2], cells[1:3], cells[0:2], cells[2:4]}
	b := base{{Name: "c", Columns: columns[:2], Rows: rows}, {Name: "d", Columns: columns[:2], Rows: rows}, {Name: "e", Columns: columns[1:], Rows: rows[1:3]}}
	wantNewBases(t, "one of them", b, columns, b[1])
	wantNewBases(t, "another name", b, columns[:2], impl.Table{Name: "f", Columns: columns[:2], Rows: rows})
	wantNewBases(t, "too many columns", b, append(columns, "d", "e", "f", "g"), impl.Table{Name: "f"})
	wantReplaced(t, "one by another", b, impl.Table{Name: "e", Columns: columns[:2], Rows: rows}, base{b[0], b[1], {Name: "e", Columns: columns[:2], Rows: rows}}, true)
	wantMade(t, "the columns of all", b, "a", columns, base{{Name: "a", Columns: columns}, b[0], b[1], b[2]}, true)
}

// Whoever writes into an answer, or into what was given for it, changes the
// one alone.
func TestWritingIntoTheBaseThatWasAnswered(t *testing.T) {
	b, columns := roomyBase(baseOf("d", "m")), []string{"x", "y"}
	made, _ := impl.Made(b, "e", columns)
	same, _ := impl.Made(b, "d", columns)
	columns[0] = "scrib"
	wantIn(t, "behind a write into its columns", made, "e", impl.Table{Name: "e", Columns: []string{"x", "y"}}, true)
	for i := range made {
		scribbleTable(made[i])
		made[i] = impl.Table{}
	}
	wantBase(t, "the base it came from", baseOf("d", "m"), b)
	for i := range same {
		scribbleTable(same[i])
		same[i] = impl.Table{}
	}
	wantBase(t, "the base as it is", baseOf("d", "m"), b)
}
