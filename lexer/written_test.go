package lexer_test

import (
	"math/rand"
	"regexp"
	"slices"
	"strings"
	"testing"

	"lexprior/api"
	"lexprior/lexer"
)

// shape is what a token of a kind looks like at the beginning of a text, by the words of the chapter.
type shape struct {
	kind api.TokenKind
	like *regexp.Regexp
}

var shapes = []shape{
	{api.TokenDate, regexp.MustCompile(`\A[0-9]{4}-[0-9]{2}-[0-9]{2}`)},
	{api.TokenNumber, regexp.MustCompile(`\A[0-9]+(?:\.[0-9]+)?`)},
	{api.TokenName, regexp.MustCompile(`\A[a-z][a-z0-9_]*`)},
	{api.TokenVar, regexp.MustCompile(`\A[A-Z][A-Za-z0-9_]*`)},
	{api.TokenQuote, regexp.MustCompile(`\A"[^"\n]*"`)},
}

var (
	gap  = regexp.MustCompile(`\A(?:[\t\n\r ]|#[^\n]*)*`)
	note = regexp.MustCompile(`#[^\n]*`)
	part = regexp.MustCompile(`\A[A-Za-z0-9_]`)
)

func allMarks() []string {
	return strings.Split("-> => ~> != <= >= == <> < > ( ) { } , . : = - + *", " ")
}

// longest: the kind and the bytes of the longest token that begins a text; 0: none does.
func longest(s string) (api.TokenKind, string) {
	var kind api.TokenKind
	best := ""
	for _, each := range shapes {
		if found := each.like.FindString(s); len(found) > len(best) {
			kind, best = each.kind, found
		}
	}
	for _, m := range allMarks() {
		if strings.HasPrefix(s, m) && len(m) > len(best) {
			kind, best = api.TokenMark, m
		}
	}
	return kind, best
}

// reading is all that the chapter says of a text.
type reading struct {
	tokens  []api.Token
	remarks []string
	errno   api.Errno
	at      int
}

// read: by the words of P4.1 and P4.4, with none of the lexer's code.
func read(s string) reading {
	if len(s) > api.MaxText {
		return reading{errno: api.ErrLong}
	}
	var r reading
	at := 0
	for {
		between := gap.FindString(s[at:])
		for _, found := range note.FindAllString(between, -1) {
			r.remarks = append(r.remarks, found[1:])
		}
		at += len(between)
		if at == len(s) {
			r.at = at
			return r
		}
		kind, bytes := longest(s[at:])
		behind := at + len(bytes)
		switch {
		case kind == 0 && s[at] == '"':
			return reading{errno: api.ErrQuote, at: at}
		case kind == 0:
			return reading{errno: api.ErrByte, at: at}
		case (kind == api.TokenName || kind == api.TokenVar) && len(bytes) > api.MaxName:
			return reading{errno: api.ErrLong, at: at}
		case kind != api.TokenQuote && kind != api.TokenMark && part.MatchString(s[behind:]):
			return reading{errno: api.ErrByte, at: behind}
		}
		text := bytes
		if kind == api.TokenQuote {
			text = bytes[1 : len(bytes)-1]
		}
		r.tokens = append(r.tokens, api.Token{Kind: kind, Text: text, At: at})
		at = behind
	}
}

// checkText: Tokens and Remarks of a text are as the chapter says; and so is what stands between the tokens.
func checkText(t *testing.T, s string) {
	t.Helper()
	want := read(s)
	tokens, errno, at := lexer.Tokens(s)
	if errno != want.errno || at != want.at || !slices.Equal(tokens, want.tokens) {
		t.Fatalf("P4.1: Tokens(%.200q) = %.200v, %d, %d, want %.200v, %d, %d", s, tokens, errno, at, want.tokens, want.errno, want.at)
	}
	remarks, errno, at := lexer.Remarks(s)
	if errno != want.errno || at != want.at || !slices.Equal(remarks, want.remarks) {
		t.Fatalf("P4.4: Remarks(%.200q) = %.200q, %d, %d, want %.200q, %d, %d", s, remarks, errno, at, want.remarks, want.errno, want.at)
	}
	if want.errno == api.OK {
		checkPlaces(t, s, tokens)
	}
}

// checkPlaces: P4.6.
func checkPlaces(t *testing.T, s string, tokens []api.Token) {
	t.Helper()
	behind := 0
	for _, token := range tokens {
		text, errno := lexer.Text(token)
		if errno != api.OK {
			t.Fatalf("P4.2: Text of %v, one of Tokens(%.200q), is refused: %d", token, s, errno)
		}
		if token.At < behind || !strings.HasPrefix(s[token.At:], text) {
			t.Fatalf("P4.6: Tokens(%.200q): %v does not stand at its place", s, token)
		}
		if between := s[behind:token.At]; gap.FindString(between) != between {
			t.Fatalf("P4.6: Tokens(%.200q): ahead of %v stands %q", s, token, between)
		}
		behind = token.At + len(text)
	}
	if rest := s[behind:]; gap.FindString(rest) != rest {
		t.Fatalf("P4.6: Tokens(%.200q): behind all of them stands %q", s, rest)
	}
}

// eachRun: all texts of at most so many of the pieces.
func eachRun(pieces []string, most int, do func(s string)) {
	var grow func(s string, left int)
	grow = func(s string, left int) {
		do(s)
		if left == 0 {
			return
		}
		for _, piece := range pieces {
			grow(s+piece, left-1)
		}
	}
	grow("", most)
}

// someTexts: the same ones at each call, made of pieces of statutes and of any bytes.
func someTexts(count int) []string {
	chance := rand.New(rand.NewSource(4))
	pieces := append(allMarks(), "rule", "r1", "act", "X", "Y_2", "aB", "12", "12.5", "7.", "2001-05-01", "2001-05-0", "2001-5-01", `"a b"`, `""`, `"`, "# x", "#", "\n", "\r\n", "\t", " ", "  ", "_", "é", "\x80", "\x00", "$")
	texts := make([]string, count)
	for i := range texts {
		var b strings.Builder
		for range chance.Intn(24) {
			if chance.Intn(40) == 0 {
				b.WriteByte(byte(chance.Intn(256)))
			}
			b.WriteString(pieces[chance.Intn(len(pieces))])
			if chance.Intn(2) == 0 {
				b.WriteString(" ")
			}
		}
		texts[i] = b.String()
	}
	return texts
}

// goodTexts: those of someTexts that are not refused.
func goodTexts(count int) []string {
	return slices.DeleteFunc(someTexts(count), func(s string) bool { return read(s).errno != api.OK })
}
