package tests

import (
	"fmt"
	"math"
	"regexp"
	"slices"
	"strconv"
	"strings"
	"testing"

	"loop.example/g00536/impl"
)

type tokens = []impl.Token

func nameToken(s string) impl.Token { return impl.Token{Kind: impl.TkName, Text: s} }

func cellToken(c impl.Cell) impl.Token { return impl.Token{Kind: impl.TkCell, Cell: c} }

func signToken(s string) impl.Token { return impl.Token{Kind: impl.TkSign, Text: s} }

func numberToken(n int64) impl.Token { return cellToken(number(n)) }

func textToken(s string) impl.Token { return cellToken(text(s)) }

func signBytes() []string { return strings.Split("+-*/=<()", "") }

func signWords() []string { return []string{"and", "or", "not", "lacks"} }

func cellWords() []string { return []string{"none", "yes", "no"} }

// nearNames are names that begin with, end with or nearly are a word that is
// none.
func nearNames() []string {
	return []string{
		"an", "andy", "sand", "anda", "aand", "o", "r", "ora", "for", "oror", "nots", "nott", "knot", "lack", "lackss", "slacks", "lac",
		"non", "nones", "nnone", "ye", "yess", "eyes", "n", "noo", "nono", "noyes", "yesno", "andor", "nor", "true", "false", "nil", "where",
	}
}

type writtenToken struct {
	token impl.Token
	text  string
}

// writtenTokens has of each Kind its edges, each with what it is written as.
func writtenTokens() []writtenToken {
	list := []writtenToken{}
	for _, s := range append(nearNames(), "a", "z", "ab", "abcdef", "zzzzzz", "count") {
		list = append(list, writtenToken{nameToken(s), s})
	}
	for _, w := range writtenCells() {
		list = append(list, writtenToken{cellToken(w.cell), w.text})
	}
	for _, s := range append(signBytes(), signWords()...) {
		list = append(list, writtenToken{signToken(s), s})
	}
	return list
}

// noSigns are texts that no TkSign has.
func noSigns() []string {
	return []string{
		"", " ", "++", "--", "+-", "+ ", " +", "( ", "()", "<=", "==", "<<", "**", "//", ">", "!", "?", "|", "&", "%", "^", ":", ";", ",", ".", "[", "]", "{", "}", "'", "\"",
		"And", "AND", "an", "andy", "and ", " and", "and or", "andor", "Or", "o", "ors", "Not", "no", "nots", "lack", "lackss", "none", "yes", "a", "ab", "0", "1", "-1", "plus",
		"\x00", "+\x00", "\n", "\xff", "−", "＋",
	}
}

func wrongTokens() tokens {
	list := tokens{
		{}, {Kind: -1}, {Kind: 4}, {Kind: math.MaxInt64}, {Kind: math.MinInt64}, {Kind: 257, Text: "a"}, {Kind: 1<<32 + 1, Text: "a"},
		{Kind: 1<<32 + 2}, {Kind: 1<<32 + 3, Text: "+"}, {Text: "a"}, {Text: "+"}, {Cell: number(1)}, {Kind: 4, Text: "a"}, {Kind: 4, Text: "+"}, {Kind: 4, Cell: number(1)},
		{Kind: impl.TkName}, {Kind: impl.TkSign},
		{Kind: impl.TkCell, Text: "a"}, {Kind: impl.TkCell, Text: "1", Cell: number(1)}, {Kind: impl.TkCell, Text: "none"}, {Kind: impl.TkCell, Text: " ", Cell: truth(1)},
		{Kind: impl.TkCell, Text: "ab", Cell: text("ab")}, {Kind: impl.TkCell, Text: "+"},
	}
	for _, s := range slices.Concat(wrongNames(), signBytes(), signWords(), cellWords()) {
		list = append(list, nameToken(s))
	}
	for _, s := range noSigns() {
		list = append(list, signToken(s))
	}
	for _, c := range wrongCells() {
		list = append(list, cellToken(c), impl.Token{Kind: impl.TkName, Text: "a", Cell: c}, impl.Token{Kind: impl.TkSign, Text: "+", Cell: c})
	}
	// Right cells are none of a name's or a sign's, but for the zero one.
	for _, c := range append(slices.Concat(rightCells()...), truth(1)) {
		list = append(list, impl.Token{Kind: impl.TkName, Text: "a", Cell: c}, impl.Token{Kind: impl.TkSign, Text: "and", Cell: c})
	}
	return list
}

func TestTokenOkOfEachKind(t *testing.T) {
	for _, w := range writtenTokens() {
		if !impl.TokenOk(w.token) {
			t.Errorf("%+v is a right token", w.token)
		}
	}
}

func TestTokenOkOfWrongTokens(t *testing.T) {
	for _, x := range wrongTokens() {
		if impl.TokenOk(x) {
			t.Errorf("%+v is no right token", x)
		}
	}
}

func TestTokenOkOfEachByteAndEachLength(t *testing.T) {
	for n := range 256 {
		b := string([]byte{byte(n)})
		letter := n >= 'a' && n <= 'z'
		for _, s := range []string{b, b + "m", "m" + b, "mmmmm" + b} {
			if impl.TokenOk(nameToken(s)) != letter {
				t.Errorf("the name %q: want %v", s, letter)
			}
		}
		if impl.TokenOk(signToken(b)) != slices.Contains(signBytes(), b) {
			t.Errorf("the sign %q", b)
		}
	}
	for n := range 40 {
		s := strings.Repeat("q", n)
		if impl.TokenOk(nameToken(s)) != (n >= 1 && n <= 6) || impl.TokenOk(textToken(s)) != (n <= 12) {
			t.Errorf("a name or a text of %d bytes", n)
		}
	}
}

func wantTokens(t *testing.T, s string, want tokens, is bool) {
	t.Helper()
	if got, right := impl.TokensOf(s); !slices.Equal(got, want) || right != is {
		t.Errorf("TokensOf %q: %+v %v; want %+v %v", s, got, right, want, is)
	}
}

func TestTokensOfEachTokenAlone(t *testing.T) {
	for _, w := range writtenTokens() {
		for _, s := range []string{w.text, " " + w.text, w.text + " ", "   " + w.text + "     "} {
			wantTokens(t, s, tokens{w.token}, true)
		}
	}
}

func TestTokensOfSeveral(t *testing.T) {
	a, b := nameToken("a"), nameToken("b")
	plus, less, open, close := signToken("+"), signToken("-"), signToken("("), signToken(")")
	cases := []struct {
		text string
		want tokens
	}{
		{"a + b", tokens{a, plus, b}}, {"a+b", tokens{a, plus, b}}, {"  a  +b ", tokens{a, plus, b}}, {"a b", tokens{a, b}}, {"ab", tokens{nameToken("ab")}},
		{"(a)", tokens{open, a, close}}, {"((a+b))", tokens{open, open, a, plus, b, close, close}}, {")(", tokens{close, open}},
		{"a - -5 'ab' and(lacks none", tokens{a, less, numberToken(-5), textToken("ab"), signToken("and"), open, signToken("lacks"), cellToken(impl.Cell{})}},
		{"+-*/=<()", tokens{plus, less, signToken("*"), signToken("/"), signToken("="), signToken("<"), open, close}},
		{"+ - * / = < ( )", tokens{plus, less, signToken("*"), signToken("/"), signToken("="), signToken("<"), open, close}},
		{"<=", tokens{signToken("<"), signToken("=")}}, {"==", tokens{signToken("="), signToken("=")}}, {"//", tokens{signToken("/"), signToken("/")}},
		{"not a or no and yes", tokens{signToken("not"), a, signToken("or"), cellToken(truth(0)), signToken("and"), cellToken(truth(1))}},
		{"not(lacks a)", tokens{signToken("not"), open, signToken("lacks"), a, close}}, {"none=none", tokens{cellToken(impl.Cell{}), signToken("="), cellToken(impl.Cell{})}},
		{"and and", tokens{signToken("and"), signToken("and")}}, {"andand", tokens{nameToken("andand")}}, {"nonot", tokens{nameToken("nonot")}}, {"notno", tokens{nameToken("notno")}},
		{"'and' 'none' 'a'", tokens{textToken("and"), textToken("none"), textToken("a")}}, {"a<1", tokens{a, signToken("<"), numberToken(1)}},
		{"1 2 3", tokens{numberToken(1), numberToken(2), numberToken(3)}}, {"2*-3", tokens{numberToken(2), signToken("*"), numberToken(-3)}},
	}
	for _, c := range cases {
		wantTokens(t, c.text, c.want, true)
	}
}

// Always the longest one that begins there, whatever stands behind it.
func TestTokensOfTheLongestOne(t *testing.T) {
	a, less, zero := nameToken("a"), signToken("-"), numberToken(0)
	cases := []struct {
		text string
		want tokens
	}{
		{"-", tokens{less}}, {"--", tokens{less, less}}, {"- ", tokens{less}}, {"- 5", tokens{less, numberToken(5)}}, {"-5", tokens{numberToken(-5)}}, {"-a", tokens{less, a}},
		{"--5", tokens{less, numberToken(-5)}}, {"---5", tokens{less, less, numberToken(-5)}}, {"5-3", tokens{numberToken(5), numberToken(-3)}}, {"a-3", tokens{a, numberToken(-3)}},
		{"5-", tokens{numberToken(5), less}}, {"a--3", tokens{a, less, numberToken(-3)}}, {"(-3)", tokens{signToken("("), numberToken(-3), signToken(")")}}, {"-(3", tokens{less, signToken("("), numberToken(3)}},
		{"-0", tokens{less, zero}}, {"-00", tokens{less, zero, zero}}, {"-05", tokens{less, zero, numberToken(5)}}, {"0-0", tokens{zero, less, zero}}, {"-'a'", tokens{less, textToken("a")}},
		{"05", tokens{zero, numberToken(5)}}, {"00", tokens{zero, zero}}, {"007", tokens{zero, zero, numberToken(7)}}, {"0", tokens{zero}}, {"050", tokens{zero, numberToken(50)}}, {"0-5", tokens{zero, numberToken(-5)}},
		{"a5", tokens{a, numberToken(5)}}, {"5a", tokens{numberToken(5), a}}, {"a5a", tokens{a, numberToken(5), a}}, {"a0", tokens{a, zero}}, {"0a", tokens{zero, a}}, {"a05", tokens{a, zero, numberToken(5)}},
		{"and5", tokens{signToken("and"), numberToken(5)}}, {"5and", tokens{numberToken(5), signToken("and")}}, {"none0", tokens{cellToken(impl.Cell{}), zero}}, {"5yes", tokens{numberToken(5), cellToken(truth(1))}},
		{"abcdef0abcdef", tokens{nameToken("abcdef"), zero, nameToken("abcdef")}}, {"no'no'no", tokens{cellToken(truth(0)), textToken("no"), cellToken(truth(0))}},
		{"'a''b'", tokens{textToken("a"), textToken("b")}}, {"''", tokens{textToken("")}}, {"''''", tokens{textToken(""), textToken("")}}, {"'a'''", tokens{textToken("a"), textToken("")}},
		{"''a''", tokens{textToken(""), a, textToken("")}}, {"a'a'a", tokens{a, textToken("a"), a}}, {"5'a'5", tokens{numberToken(5), textToken("a"), numberToken(5)}}, {"'a'-5", tokens{textToken("a"), numberToken(-5)}},
	}
	for _, c := range cases {
		wantTokens(t, c.text, c.want, true)
	}
}

func TestTokensOfNumbersAtTheEdge(t *testing.T) {
	top := numberToken(topNumber)
	cases := []struct {
		text string
		want tokens
	}{
		{"1000000000", tokens{top}}, {"-1000000000", tokens{numberToken(-topNumber)}}, {"999999999", tokens{numberToken(999999999)}}, {"-999999999", tokens{numberToken(-999999999)}},
		// One more is no CeNumber: the longest one there has a digit less.
		{"1000000001", tokens{numberToken(100000000), numberToken(1)}}, {"-1000000001", tokens{numberToken(-100000000), numberToken(1)}},
		{"1000000010", tokens{numberToken(100000001), numberToken(0)}}, {"2000000000", tokens{numberToken(200000000), numberToken(0)}}, {"9999999999", tokens{numberToken(999999999), numberToken(9)}},
		{"-9999999999", tokens{numberToken(-999999999), numberToken(9)}}, {"1234567890", tokens{numberToken(123456789), numberToken(0)}}, {"12345678901", tokens{numberToken(123456789), numberToken(0), numberToken(1)}},
		{"10000000000", tokens{top, numberToken(0)}}, {"10000000005", tokens{top, numberToken(5)}}, {"10000000001000000000", tokens{top, top}}, {"1000000000-1000000000", tokens{top, numberToken(-topNumber)}},
		{"01000000000", tokens{numberToken(0), top}}, {"9223372036854775808", tokens{numberToken(922337203), numberToken(685477580), numberToken(8)}},
	}
	for _, c := range cases {
		wantTokens(t, c.text, c.want, true)
	}
	for _, n := range someNumbers() {
		wantTokens(t, fmt.Sprint(n), tokens{numberToken(n)}, true)
		wantTokens(t, fmt.Sprint("a", n, "+"), tokens{nameToken("a"), numberToken(n), signToken("+")}, true)
	}
}

func TestTokensOfEachLengthOfANameAndOfAText(t *testing.T) {
	for n := 1; n < 40; n++ {
		s := strings.Repeat("q", n)
		for _, c := range []struct {
			text  string
			want  tokens
			right bool
		}{
			{s, tokens{nameToken(s)}, n <= 6}, {s + "5", tokens{nameToken(s), numberToken(5)}, n <= 6}, {"(" + s, tokens{signToken("("), nameToken(s)}, n <= 6},
			{"'" + s + "'", tokens{textToken(s)}, n <= 12}, {"a '" + s + "'", tokens{nameToken("a"), textToken(s)}, n <= 12}, {"'" + s + "'a", tokens{textToken(s), nameToken("a")}, n <= 12},
		} {
			if !c.right {
				c.want = nil
			}
			wantTokens(t, c.text, c.want, c.right)
		}
	}
}

func TestTokensOfNothingAndOfBlanks(t *testing.T) {
	wantTokens(t, "", nil, true)
	for _, n := range []int{1, 2, 3, 100, impl.MaxText - 1, impl.MaxText} {
		wantTokens(t, strings.Repeat(" ", n), nil, true)
	}
	wantTokens(t, strings.Repeat(" ", impl.MaxText+1), nil, false)
}

func TestTokensOfTextsOfMaxTextBytes(t *testing.T) {
	for _, w := range []writtenToken{
		{signToken("("), "("}, {signToken("-"), "-"}, {numberToken(0), "0"}, {numberToken(topNumber), "1000000000"}, {textToken(""), "''"}, {nameToken("a"), "a "}, {signToken("and"), "and "},
		{nameToken("abc"), " abc"}, {textToken("abcdefgh"), "'abcdefgh'"}, {cellToken(impl.Cell{}), "none "}, {numberToken(-5), "-5"}, {cellToken(truth(1)), " yes"},
	} {
		count := impl.MaxText / len(w.text)
		s, want := strings.Repeat(w.text, count), slices.Repeat(tokens{w.token}, count)
		wantTokens(t, s, want, true)
		wantTokens(t, s+" ", nil, false)
		wantTokens(t, " "+s, nil, false)
		wantTokens(t, s+w.text, nil, false)
		wantTokens(t, strings.Repeat(s, 50), nil, false)
	}
	blanks := strings.Repeat(" ", impl.MaxText-1)
	wantTokens(t, blanks+"a", tokens{nameToken("a")}, true)
	wantTokens(t, "a"+blanks, tokens{nameToken("a")}, true)
	wantTokens(t, blanks+"?", nil, false)
	wantTokens(t, blanks+" a", nil, false)
	wantTokens(t, strings.Repeat("a", impl.MaxText), nil, false)
	wantTokens(t, "'"+strings.Repeat("a", impl.MaxText-1), nil, false)
}

// noTokens are texts in which something else stands.
func noTokens() []string {
	return []string{
		"'", "'a", "'abcdefghijkl", "'''", "'''''", "'a''", "'a'b'", "a'", "'a b'", "' '", "'a '", "' a'", "'a1'", "'-'", "'A'", "'aB'", "'a\x00'", "'é'", "'a\n'", "'abcdefghijklm'", "'('", "\"a\"", "`a`",
		"abcdefg", "a abcdefg", "abcdefg a", "andnone", "lacksor", "A", "aB", "Ab", "And", "NONE", "a_b", "_", "é", "aé", "ａ", "５", "٣",
		"?", "a ? b", "a ?", "? a", "1.5", "1,2", ".", ",", ";", ":", "!", "a != b", ">", "a > b", "[", "]", "{", "}", "|", "&", "%", "^", "~", "@", "#", "$", "\\",
		"\n", "a\nb", "a\n", "\t", "a\tb", "\r", "\x00", "a\x00", "\x00a", "1\x00", "'\x00", "-\x00", " \x00", "\x7f", "\x80", "\xff", "a\xff", "a\u00a0b", "−5",
	}
}

func TestTokensOfTextsWithAnythingElse(t *testing.T) {
	for _, s := range noTokens() {
		for _, x := range []string{s, "a + 1 " + s, s + " + 1", "(" + s + ")", "  " + s + "  "} {
			wantTokens(t, x, nil, false)
		}
	}
}

func TestTokensOfEachByte(t *testing.T) {
	for n := range 256 {
		b := string([]byte{byte(n)})
		right := strings.Contains("abcdefghijklmnopqrstuvwxyz0123456789+-*/=<() ", b)
		for _, s := range []string{b, "(" + b, b + ")", "5 " + b + " 'a'", "a" + b + "a"} {
			if list, is := impl.TokensOf(s); is != right || !is && len(list) != 0 {
				t.Errorf("TokensOf %q: %+v %v", s, list, is)
			}
		}
	}
}

// longForms are what may stand there, by another way: of all beginnings that
// are of one of these forms the longest one counts.
func longForms() *regexp.Regexp {
	return regexp.MustCompile(`\A( +|[a-z]+|0|-?[1-9][0-9]{0,8}|-?1000000000|'[a-z]{0,12}'|[-+*/=<()])\z`)
}

func longestPiece(forms *regexp.Regexp, s string) string {
	for n := len(s); n > 0; n-- {
		if forms.MatchString(s[:n]) {
			return s[:n]
		}
	}
	return ""
}

func tokenByForm(piece string) (impl.Token, bool) {
	words := map[string]impl.Cell{"none": {}, "yes": truth(1), "no": truth(0)}
	if c, is := words[piece]; is {
		return cellToken(c), true
	}
	if slices.Contains(append(signBytes(), signWords()...), piece) {
		return signToken(piece), true
	}
	if n, err := strconv.ParseInt(piece, 10, 64); err == nil {
		return numberToken(n), true
	}
	if piece != "" && piece[0] == '\'' {
		return textToken(strings.Trim(piece, "'")), true
	}
	return nameToken(piece), piece != "" && len(piece) <= 6
}

func tokensByForm(forms *regexp.Regexp, s string) (tokens, bool) {
	out := tokens{}
	for s != "" {
		piece := longestPiece(forms, s)
		s = s[len(piece):]
		if strings.Trim(piece, " ") == "" && piece != "" {
			continue
		}
		x, is := tokenByForm(piece)
		if !is {
			return nil, false
		}
		out = append(out, x)
	}
	return out, true
}

func wantByForm(t *testing.T, forms *regexp.Regexp, s string) {
	t.Helper()
	want, is := tokensByForm(forms, s)
	wantTokens(t, s, want, is)
}

func TestTokensOfShortTexts(t *testing.T) {
	forms := longForms()
	for _, s := range shortTexts("-01'ano (?", 5) {
		wantByForm(t, forms, s)
	}
}

func TestTokensOfTokensSideBySide(t *testing.T) {
	forms, list := longForms(), writtenTokens()
	for i, x := range list {
		for k, y := range list {
			z := list[(i*7+k*3)%len(list)]
			for _, s := range []string{x.text + y.text, x.text + y.text + z.text, x.text + " " + y.text + z.text, x.text + y.text + "  " + z.text} {
				wantByForm(t, forms, s)
			}
		}
	}
}

func TestTokensOfAByteMoreAndOneLess(t *testing.T) {
	forms := longForms()
	for _, s := range []string{"a - -5 'ab' and(lacks none", "yes=1000000000<-1000000000", "abcdef*'abcdefghijkl'/05or no"} {
		for i := range len(s) {
			wantByForm(t, forms, s[:i]+s[i+1:])
			wantByForm(t, forms, s[:i])
			wantByForm(t, forms, s[i:])
			for b := range 256 {
				wantByForm(t, forms, s[:i]+string([]byte{byte(b)})+s[i:])
			}
		}
	}
}

// What TokensOf answers are right Tokens, and TextOf them reads as the same.
func TestTokensOfAreRightTokens(t *testing.T) {
	for _, s := range shortTexts("-05'an)", 5) {
		list, is := impl.TokensOf(s)
		for _, x := range list {
			if !impl.TokenOk(x) {
				t.Errorf("TokensOf %q has %+v", s, x)
			}
		}
		if is {
			wantTokens(t, impl.TextOf(list), list, true)
		}
	}
}

func wantText(t *testing.T, list tokens, want string) {
	t.Helper()
	if s := impl.TextOf(list); s != want {
		t.Errorf("TextOf %+v: %q; want %q", list, s, want)
	}
}

func TestTextOfNoneOneAndSeveral(t *testing.T) {
	wantText(t, nil, "")
	wantText(t, tokens{}, "")
	all, texts := tokens{}, []string{}
	for _, w := range writtenTokens() {
		wantText(t, tokens{w.token}, w.text)
		wantText(t, tokens{w.token, w.token}, w.text+" "+w.text)
		all, texts = append(all, w.token), append(texts, w.text)
	}
	wantText(t, all, strings.Join(texts, " "))
	wantText(t, tokens{signToken("-"), numberToken(5)}, "- 5")
	wantText(t, tokens{numberToken(-5), signToken("("), nameToken("a"), signToken(")"), textToken(""), signToken("lacks"), cellToken(impl.Cell{})}, "-5 ( a ) '' lacks none")
}

func TestTextOfWrongTokens(t *testing.T) {
	a, one := nameToken("a"), numberToken(1)
	for _, x := range wrongTokens() {
		for _, list := range []tokens{{x}, {x, a}, {a, x}, {a, x, one}, {x, x}, {one, one, one, a, x}} {
			wantText(t, list, "")
		}
	}
}

// wantPromise7: TokensOf TextOf are the tokens, where that is not too long.
func wantPromise7(t *testing.T, list tokens) {
	t.Helper()
	s := impl.TextOf(list)
	if s == "" && len(list) != 0 {
		t.Errorf("TextOf %+v is empty", list)
	}
	if len(s) > impl.MaxText {
		wantTokens(t, s, nil, false)
		return
	}
	wantTokens(t, s, list, true)
}

func TestPromise7TokensOfTextOf(t *testing.T) {
	list := writtenTokens()
	wantPromise7(t, nil)
	for i, x := range list {
		wantPromise7(t, tokens{x.token})
		for k, y := range list {
			wantPromise7(t, tokens{x.token, y.token})
			for n := range 9 {
				mixed := tokens{x.token, y.token}
				for m := range n {
					mixed = append(mixed, list[(i+k*m+n*n)%len(list)].token)
				}
				wantPromise7(t, mixed)
			}
		}
	}
}

func TestPromise7OfEachNumberAndEachLetter(t *testing.T) {
	for _, n := range someNumbers() {
		wantPromise7(t, tokens{numberToken(n), signToken("-"), numberToken(n), numberToken(-n), nameToken("a"), numberToken(n)})
	}
	for b := 'a'; b <= 'z'; b++ {
		for n := 1; n <= 12; n++ {
			s := strings.Repeat(string(b), n)
			wantPromise7(t, tokens{textToken(s), nameToken(s[:min(n, 6)]), textToken(s[1:])})
		}
	}
}

// Lists whose texts grow up to MaxText and past it.
func TestPromise7UpToMaxText(t *testing.T) {
	list := writtenTokens()
	for i := range list {
		long, length := tokens{}, 0
		for n := 0; length <= impl.MaxText+20; n++ {
			w := list[(i+n*(i+1))%len(list)]
			long, length = append(long, w.token), length+len(w.text)+1
			wantPromise7(t, long)
		}
	}
	// 999 signs of one byte, the 999 blanks behind them and one of two bytes
	// are just that many.
	just := append(slices.Repeat(tokens{signToken("(")}, 999), signToken("or"))
	if n := len(impl.TextOf(just)); n != impl.MaxText {
		t.Fatalf("%d bytes", n)
	}
	wantPromise7(t, just)
	over := append(slices.Repeat(tokens{signToken("(")}, 999), signToken("and"))
	wantPromise7(t, over)
}

// roomyTokens is the same list, with spare room behind it.
func roomyTokens(list tokens) tokens {
	spare := impl.Token{Kind: 77, Text: "spare", Cell: impl.Cell{Kind: 77, Number: 7, Text: "room"}}
	return append(slices.Clone(list), spare, spare)[:len(list)]
}

func TestTextOfAndTokenOkLeaveTheirArguments(t *testing.T) {
	lists := []tokens{nil, {}, {nameToken("a")}, {nameToken("a"), signToken("-"), numberToken(-5), textToken("ab")}, {{Kind: 9}, nameToken("and")}, wrongTokens()}
	all := tokens{}
	for _, w := range writtenTokens() {
		all = append(all, w.token)
	}
	for _, list := range append(lists, all) {
		given := roomyTokens(list)
		before := slices.Clone(given[:cap(given)])
		first := impl.TextOf(given)
		for _, x := range given {
			impl.TokenOk(x)
		}
		if !slices.Equal(before, given[:cap(given)]) {
			t.Errorf("TextOf writes into %+v", before)
		}
		want := strings.Clone(first)
		for i := range given[:cap(given)] {
			given[:cap(given)][i] = impl.Token{Kind: 99, Text: "scrib"}
		}
		if first != want {
			t.Errorf("TextOf %+v shares memory with its argument", before)
		}
	}
}

// Each answer of TokensOf, be it empty or refused, is memory of its own.
func TestTokensOfIsNewMemory(t *testing.T) {
	for _, s := range append(noTokens(), "", "  ", "a", "a - -5 'ab' and(lacks none", "a + b ?", "1 2 3 abcdefg", strings.Repeat("(", impl.MaxText), strings.Repeat("(", impl.MaxText+1)) {
		whole := s + " spare 77"
		given := whole[:len(s)]
		first, is := impl.TokensOf(given)
		second, _ := impl.TokensOf(given)
		want := slices.Clone(second)
		wantApart(t, fmt.Sprintf("TokensOf %q", s), []span{spanOf("one", first), spanOf("other", second)}, nil)
		first = append(first, nameToken("more"))
		for i := range first[:cap(first)] {
			first[:cap(first)][i] = impl.Token{Kind: 99, Text: "scrib"}
		}
		if !slices.Equal(second, want) || given != s || whole != s+" spare 77" {
			t.Errorf("TokensOf %q: its answers share memory, or it writes into its argument", s)
		}
		wantTokens(t, given, want, is)
	}
}

// What is read is not changed by who writes into the list that TextOf was
// given, nor into the one that was read before.
func TestWritingIntoTheTokensThatWereRead(t *testing.T) {
	want := tokens{nameToken("ab"), signToken("<"), textToken("cd"), numberToken(-7)}
	given := slices.Clone(want)
	s := impl.TextOf(given)
	clear(given)
	read, _ := impl.TokensOf(s)
	clear(read)
	wantTokens(t, s, want, true)
	wantText(t, want, "ab < 'cd' -7")
}
