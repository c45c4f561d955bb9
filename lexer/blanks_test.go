package lexer_test

import (
	"slices"
	"testing"

	"lexprior/api"
	"lexprior/lexer"
)

// mustTokens: of a text that is not refused.
func mustTokens(t *testing.T, s string) []api.Token {
	t.Helper()
	l, errno, at := lexer.Tokens(s)
	if errno != api.OK || at != len(s) {
		t.Fatalf("P4.1: Tokens(%q): %d, %d", s, errno, at)
	}
	return l
}

func mustRemarks(t *testing.T, s string) []string {
	t.Helper()
	l, errno, at := lexer.Remarks(s)
	if errno != api.OK || at != len(s) {
		t.Fatalf("P4.4: Remarks(%q): %d, %d", s, errno, at)
	}
	return l
}

// moved: tokens, each from its place on so many bytes further that stands at one or behind it.
func moved(l []api.Token, from int, by int) []api.Token {
	l = slices.Clone(l)
	for i := range l {
		if l[i].At >= from {
			l[i].At += by
		}
	}
	return l
}

// blanksBetween: the places of the blanks that stand between tokens, and in no remark.
func blanksBetween(s string, tokens []api.Token) []int {
	var places []int
	inRemark := false
	next := 0
	for at := 0; at < len(s); at++ {
		if !inRemark && next < len(tokens) && tokens[next].At == at {
			text, _ := lexer.Text(tokens[next])
			at += len(text) - 1
			next++
			continue
		}
		switch {
		case s[at] == '\n':
			inRemark = false
		case s[at] == '#':
			inRemark = true
		}
		if !inRemark {
			places = append(places, at)
		}
	}
	return places
}

func TestMoreBlanks(t *testing.T) {
	texts := append(goodTexts(4000), "a b", "rule r1 of act at 2001-05-01: p(X) => -q.  # x\n # y\n1 . 5 - >", "\" \" \" # \" # \" \n a")
	for _, s := range texts {
		tokens := mustTokens(t, s)
		remarks := mustRemarks(t, s)
		for _, at := range blanksBetween(s, tokens) {
			for _, more := range []string{" ", "\t", "\r", "\n", "\n \t\r\n"} {
				longer := s[:at+1] + more + s[at+1:]
				if l := mustTokens(t, longer); !slices.Equal(l, moved(tokens, at, len(more))) {
					t.Fatalf("P4.7: Tokens(%q) = %q, of %q %q", longer, told(l), s, told(tokens))
				}
				if l := mustRemarks(t, longer); !slices.Equal(l, remarks) {
					t.Fatalf("P4.7: Remarks(%q) = %q, of %q %q", longer, l, s, remarks)
				}
			}
		}
	}
}

func TestOneTextBehindAnother(t *testing.T) {
	texts := append(goodTexts(600), "", " ", "\n", "#", "# a", "a", "X", "1", "1.", "2001", "2001-05", "-", "=", "<", `""`, ".5", ">", "-05-01")
	for _, a := range texts {
		for _, b := range texts {
			both := a + "\n" + b
			want := append(slices.Clone(mustTokens(t, a)), moved(mustTokens(t, b), 0, len(a)+1)...)
			if l := mustTokens(t, both); !slices.Equal(l, want) {
				t.Fatalf("P4.7: Tokens(%q) = %q, want %q", both, told(l), told(want))
			}
		}
	}
}
