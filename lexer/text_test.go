package lexer_test

import (
	"math"
	"regexp"
	"slices"
	"strings"
	"testing"

	"lexprior/api"
	"lexprior/lexer"
)

// wholes: the texts that a token of each kind may have, as to their bytes.
var wholes = []shape{
	{api.TokenDate, regexp.MustCompile(`\A[0-9]{4}-[0-9]{2}-[0-9]{2}\z`)},
	{api.TokenNumber, regexp.MustCompile(`\A[0-9]+(\.[0-9]+)?\z`)},
	{api.TokenName, regexp.MustCompile(`\A[a-z][a-z0-9_]*\z`)},
	{api.TokenVar, regexp.MustCompile(`\A[A-Z][A-Za-z0-9_]*\z`)},
	{api.TokenQuote, regexp.MustCompile(`\A[^"\n]*\z`)},
	{api.TokenMark, regexp.MustCompile(`\A(->|=>|~>|!=|<=|>=|==|<>|<|>|\(|\)|\{|\}|,|\.|:|=|-|\+|\*)\z`)},
}

// mayBe: whether Tokens could answer it, by the words of the chapter.
func mayBe(kind api.TokenKind, text string) bool {
	switch kind {
	case api.TokenName, api.TokenVar:
		if len(text) > api.MaxName {
			return false
		}
	case api.TokenQuote:
		if len(text) > api.MaxText-2 {
			return false
		}
	}
	for _, each := range wholes {
		if each.kind == kind {
			return len(text) <= api.MaxText && each.like.MatchString(text)
		}
	}
	return false
}

func anyKinds() []api.TokenKind {
	return []api.TokenKind{math.MinInt, -1, 0, api.TokenName, api.TokenVar, api.TokenNumber, api.TokenDate, api.TokenQuote, api.TokenMark, api.TokenMark + 1, 256 + api.TokenName, math.MaxInt}
}

func checkToken(t *testing.T, token api.Token) {
	t.Helper()
	want, wantErrno := "", api.ErrToken
	if mayBe(token.Kind, token.Text) {
		want, wantErrno = token.Text, api.OK
		if token.Kind == api.TokenQuote {
			want = `"` + want + `"`
		}
	}
	if s, errno := lexer.Text(token); s != want || errno != wantErrno {
		t.Fatalf("P4.2: Text of kind %d, %.200q, at %d: %.200q, %d, want %.200q, %d", token.Kind, token.Text, token.At, s, errno, want, wantErrno)
	}
}

// TestEachKindWithEachText: a text of one kind is none of the others, but as a quote.
func TestEachKindWithEachText(t *testing.T) {
	texts := append(allMarks(), "", " ", "a", "rule", "a_1", "X", "Xy_9Z", "0", "12", "12.5", "007", "2001-05-01", "0000-99-99",
		"a ", " a", "a\n", "\na", "a#", "#a", "#", "a b", "aB", "a-b", "_", "_a", "é", "aé", "\x00", "\xff", "a\x00",
		"X ", " X", "X#", "Xé", "1X", "1x", "1.", ".1", "1..2", "1.2.3", "1 ", " 1", "-1", "+1", "1e5", "1_0", "1,5",
		"2001-05-0", "2001-05-012", "2001-5-01", "2001-05-01 ", " 2001-05-01", "2001-05-01#", "20010501", "2001/05/01", "2001-05-01.",
		`"`, `""`, `"a"`, `a"b`, `a" "b`, `"a`, `a"`, "a\nb", "\n", "a#b", "a\rb",
		"!", "~", "!>", "~=", "--", "-->", "- ", " -", "->#", "=>>", "()", "..", "- >", "&", "/", "<=>")
	for _, text := range texts {
		for _, kind := range anyKinds() {
			checkToken(t, api.Token{Kind: kind, Text: text})
		}
	}
}

func TestShortTokens(t *testing.T) {
	eachRun(strings.Split("a|B|1|.|-|>|=|#|\"|\n| |_|~", "|"), 3, func(s string) {
		for _, kind := range anyKinds() {
			checkToken(t, api.Token{Kind: kind, Text: s})
		}
	})
}

func TestLongTokens(t *testing.T) {
	for _, piece := range []string{"a", "A", "1", "_", "-", "é", "\""} {
		for _, length := range []int{api.MaxName - 1, api.MaxName, api.MaxName + 1, api.MaxText - 3, api.MaxText - 2, api.MaxText - 1, api.MaxText, api.MaxText + 1, 3 * api.MaxText} {
			text := strings.Repeat(piece, length)[:length]
			for _, kind := range anyKinds() {
				checkToken(t, api.Token{Kind: kind, Text: text})
			}
		}
	}
	checkToken(t, api.Token{Kind: api.TokenNumber, Text: "1." + strings.Repeat("0", api.MaxText-2)})
	checkToken(t, api.Token{Kind: api.TokenNumber, Text: "1." + strings.Repeat("0", api.MaxText-1)})
}

func TestPlaceOfATokenIsNotAsked(t *testing.T) {
	for _, at := range []int{math.MinInt, -1, 0, 1, api.MaxText, math.MaxInt} {
		checkToken(t, api.Token{Kind: api.TokenName, Text: "a", At: at})
		checkToken(t, api.Token{Kind: api.TokenName, Text: "A", At: at})
		if s, errno, n := lexer.Join([]api.Token{{Kind: api.TokenQuote, Text: "a", At: at}}); s != `"a"` || errno != api.OK || n != 1 {
			t.Errorf("P4.2: Join with At %d: %q, %d, %d", at, s, errno, n)
		}
	}
}

// someTokens: of each kind, and such as would become others without a blank between.
func someTokens() []api.Token {
	l := []api.Token{
		{Kind: api.TokenName, Text: "a"}, {Kind: api.TokenName, Text: strings.Repeat("z", api.MaxName)}, {Kind: api.TokenName, Text: "x_1"},
		{Kind: api.TokenVar, Text: "X"}, {Kind: api.TokenVar, Text: "Ab_9"},
		{Kind: api.TokenNumber, Text: "2001"}, {Kind: api.TokenNumber, Text: "05"}, {Kind: api.TokenNumber, Text: "1.5"},
		{Kind: api.TokenDate, Text: "2001-05-01"},
		{Kind: api.TokenQuote, Text: ""}, {Kind: api.TokenQuote, Text: "# a\r\x00é\xff"}, {Kind: api.TokenQuote, Text: " "},
	}
	for _, m := range allMarks() {
		l = append(l, api.Token{Kind: api.TokenMark, Text: m})
	}
	return l
}

// checkJoin: P4.5, and what P4.2 says of a list that is not refused.
func checkJoin(t *testing.T, l []api.Token) {
	t.Helper()
	var texts []string
	for _, token := range l {
		text := token.Text
		if token.Kind == api.TokenQuote {
			text = `"` + text + `"`
		}
		texts = append(texts, text)
	}
	s, errno, n := lexer.Join(l)
	if s != strings.Join(texts, " ") || errno != api.OK || n != len(l) {
		t.Fatalf("P4.2: Join(%.200v) = %.200q, %d, %d", l, s, errno, n)
	}
	back, errno, _ := lexer.Tokens(s)
	same := slices.EqualFunc(back, l, func(a, b api.Token) bool { return a.Kind == b.Kind && a.Text == b.Text })
	if !same || errno != api.OK {
		t.Fatalf("P4.5: Tokens of Join(%.200v) = %.200v, %d", l, back, errno)
	}
}

func TestThereAndBack(t *testing.T) {
	checkJoin(t, nil)
	checkJoin(t, []api.Token{})
	for _, a := range someTokens() {
		checkJoin(t, []api.Token{a})
		for _, b := range someTokens() {
			checkJoin(t, []api.Token{a, b})
			for _, c := range someTokens() {
				checkJoin(t, []api.Token{a, b, c})
			}
		}
	}
	checkJoin(t, someTokens())
	for _, s := range goodTexts(20000) {
		checkJoin(t, read(s).tokens)
	}
}

func TestJoinOfWrongTokens(t *testing.T) {
	good := someTokens()
	for _, wrong := range []api.Token{{}, {Kind: api.TokenName}, {Kind: api.TokenName, Text: "A"}, {Kind: api.TokenQuote, Text: `"`}, {Kind: api.TokenQuote, Text: "\n"}, {Kind: api.TokenMark, Text: "!"}, {Kind: 7, Text: "a"}, {Kind: api.TokenNumber, Text: "2001-05-01"}} {
		for place := range len(good) + 1 {
			l := slices.Insert(slices.Clone(good), place, wrong)
			if s, errno, n := lexer.Join(l); s != "" || errno != api.ErrToken || n != place {
				t.Errorf("P4.2: Join with %v at %d: %q, %d, %d", wrong, place, s, errno, n)
			}
			l = append(l, wrong)
			if s, errno, n := lexer.Join(l); s != "" || errno != api.ErrToken || n != place {
				t.Errorf("P4.2: Join with %v at %d and at the end: %q, %d, %d", wrong, place, s, errno, n)
			}
		}
	}
}

func TestJoinOfMuch(t *testing.T) {
	most := (api.MaxText + 1) / 2
	for count, fits := range map[int]bool{most - 1: true, most: true, most + 1: false, 3 * most: false} {
		l := slices.Repeat([]api.Token{{Kind: api.TokenMark, Text: "("}}, count)
		checkMuch(t, l, fits)
		// A wrong token is told ahead of too long a text, wherever it stands.
		l = append(l, api.Token{Kind: api.TokenMark, Text: "a"})
		if s, errno, n := lexer.Join(l); s != "" || errno != api.ErrToken || n != count {
			t.Errorf("P4.2: Join of %d marks and a wrong one: %d bytes, %d, %d", count, len(s), errno, n)
		}
	}
	for length, fits := range map[int]bool{api.MaxText - 5: true, api.MaxText - 4: true, api.MaxText - 3: false, api.MaxText - 2: false} {
		quote := api.Token{Kind: api.TokenQuote, Text: strings.Repeat("x", length)}
		checkMuch(t, []api.Token{quote, {Kind: api.TokenName, Text: "a"}}, fits)
		checkMuch(t, []api.Token{{Kind: api.TokenName, Text: "a"}, quote}, fits)
		checkMuch(t, []api.Token{quote}, true)
		checkMuch(t, []api.Token{quote, quote}, false)
	}
}

func checkMuch(t *testing.T, l []api.Token, fits bool) {
	t.Helper()
	if fits {
		checkJoin(t, l)
		return
	}
	if s, errno, n := lexer.Join(l); s != "" || errno != api.ErrLong || n != len(l) {
		t.Errorf("P4.2: Join of %d tokens, too long: %d bytes, %d, %d", len(l), len(s), errno, n)
	}
}
