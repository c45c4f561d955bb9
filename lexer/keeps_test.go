package lexer_test

import (
	"fmt"
	"slices"
	"sync"
	"testing"
	"unsafe"

	"lexprior/api"
	"lexprior/lexer"
)

const sample = "rule r1 of \"a b\" at 2001-05-01: p(X) => 12.5. # x\n#y\n"

// loose: bytes, and the text that they are, so that the text can become another behind a call.
func loose(s string) ([]byte, string) {
	b := []byte(s)
	return b, unsafe.String(unsafe.SliceData(b), len(b))
}

// blur: makes the bytes others.
func blur(b []byte) {
	for i := range b {
		b[i] = '?'
	}
}

func TestTextsAreNotChangedNorKept(t *testing.T) {
	want := read(sample)
	b, s := loose(sample)
	tokens, _, _ := lexer.Tokens(s)
	remarks, _, _ := lexer.Remarks(s)
	lexer.Place(s, 7)
	if string(b) != sample {
		t.Errorf("P4.8: a call changed its text: %q", b)
	}
	blur(b)
	if !slices.Equal(tokens, want.tokens) {
		t.Errorf("P4.8: Tokens shares memory with its text: %v", tokens)
	}
	if !slices.Equal(remarks, want.remarks) {
		t.Errorf("P4.8: Remarks shares memory with its text: %q", remarks)
	}
}

func TestTokensAreNotChangedNorKept(t *testing.T) {
	for _, token := range someTokens() {
		want, _ := lexer.Text(token)
		b, s := loose(token.Text)
		l := append(make([]api.Token, 0, 4), api.Token{Kind: token.Kind, Text: s, At: 3})
		text, errno := lexer.Text(l[0])
		joined, errnoOfJoin, _ := lexer.Join(l)
		if errno != api.OK || errnoOfJoin != api.OK {
			t.Errorf("P4.2: %v is refused: %d, %d", token, errno, errnoOfJoin)
		}
		if string(b) != token.Text || l[0].Kind != token.Kind || l[0].At != 3 || l[:2][1] != (api.Token{}) {
			t.Errorf("P4.8: a call changed its tokens: %v", l[:2])
		}
		blur(b)
		l[0] = api.Token{}
		if text != want || joined != want {
			t.Errorf("P4.8: an answer shares memory with %v: %q, %q", token, text, joined)
		}
	}
}

// share: whether two texts have a byte of memory in common.
func share(a, b string) bool {
	if a == "" || b == "" {
		return false
	}
	fromA, fromB := uintptr(unsafe.Pointer(unsafe.StringData(a))), uintptr(unsafe.Pointer(unsafe.StringData(b)))
	return fromA < fromB+uintptr(len(b)) && fromB < fromA+uintptr(len(a))
}

// answers: all texts that the calls answer of a text and of its tokens.
func answers(s string) []string {
	tokens, _, _ := lexer.Tokens(s)
	all, _, _ := lexer.Remarks(s)
	joined, _, _ := lexer.Join(tokens)
	all = append(all, joined)
	for _, token := range tokens {
		text, _ := lexer.Text(token)
		alone, _, _ := lexer.Join([]api.Token{token})
		all = append(all, text, alone, token.Text)
	}
	return all
}

// TestAnswersAreNewTexts: those of one call share no memory with its argument, nor with those of the same call made again.
func TestAnswersAreNewTexts(t *testing.T) {
	first, second := answers(sample), answers(sample)
	if !slices.Equal(first, second) {
		t.Fatalf("P3: two answers of one text: %q, %q", first, second)
	}
	for _, a := range first {
		if share(a, sample) {
			t.Errorf("P4.8: %q shares memory with the text", a)
		}
		for _, b := range second {
			if share(a, b) {
				t.Errorf("P4.8: %q and %q of two answers share memory", a, b)
			}
		}
	}
	for _, token := range someTokens() {
		text, _ := lexer.Text(token)
		again, _ := lexer.Text(token)
		joined, _, _ := lexer.Join([]api.Token{token})
		if share(text, token.Text) || share(joined, token.Text) || share(text, again) || share(text, joined) {
			t.Errorf("P4.8: answers of %v share memory", token)
		}
	}
}

// TestAnswersAreNewLists: what is done to one answer is not seen in another, nor in a later one.
func TestAnswersAreNewLists(t *testing.T) {
	want := read(sample)
	first, _, _ := lexer.Tokens(sample)
	second, _, _ := lexer.Tokens(sample)
	notes, _, _ := lexer.Remarks(sample)
	others, _, _ := lexer.Remarks(sample)
	clear(first[:cap(first)])
	clear(notes[:cap(notes)])
	third, _, _ := lexer.Tokens(sample)
	later, _, _ := lexer.Remarks(sample)
	if !slices.Equal(second, want.tokens) || !slices.Equal(third, want.tokens) {
		t.Errorf("P4.8: answers of Tokens share memory: %v, %v", second, third)
	}
	if !slices.Equal(others, want.remarks) || !slices.Equal(later, want.remarks) {
		t.Errorf("P4.8: answers of Remarks share memory: %q, %q", others, later)
	}
}

func TestNilAndEmptyAreOne(t *testing.T) {
	a, errnoA, countA := lexer.Join(nil)
	b, errnoB, countB := lexer.Join([]api.Token{})
	if a != "" || b != "" || errnoA != api.OK || errnoB != api.OK || countA != 0 || countB != 0 {
		t.Errorf("P1: Join of none: %q, %d, %d and %q, %d, %d", a, errnoA, countA, b, errnoB, countB)
	}
}

// allAnswers: of all calls, told in one text.
func allAnswers(s string) string {
	tokens, errno, at := lexer.Tokens(s)
	remarks, errnoOfRemarks, atOfRemarks := lexer.Remarks(s)
	joined, errnoOfJoin, count := lexer.Join(tokens)
	line, column, errnoOfPlace := lexer.Place(s, at)
	text, errnoOfText := lexer.Text(api.Token{Kind: api.TokenKind(len(s) % 8), Text: s, At: at})
	return fmt.Sprint(told(tokens), errno, at, remarks, errnoOfRemarks, atOfRemarks, joined, errnoOfJoin, count, line, column, errnoOfPlace, text, errnoOfText)
}

// TestSameAnswers: the same arguments have the same answers, alone and beside other calls.
func TestSameAnswers(t *testing.T) {
	texts := someTexts(2000)
	want := make([]string, len(texts))
	for i, s := range texts {
		want[i] = allAnswers(s)
	}
	var workers sync.WaitGroup
	for range 4 {
		workers.Go(func() {
			for i, s := range texts {
				if got := allAnswers(s); got != want[i] {
					t.Errorf("P3: of %q another answer: %s, then %s", s, want[i], got)
				}
			}
		})
	}
	workers.Wait()
}

// FuzzTokens: nothing panics, and all is as the chapter says, whatever bytes there are.
func FuzzTokens(f *testing.F) {
	for _, s := range someTexts(50) {
		f.Add(s)
	}
	f.Fuzz(func(t *testing.T, s string) {
		checkText(t, s)
		for _, kind := range anyKinds() {
			checkToken(t, api.Token{Kind: kind, Text: s})
		}
	})
}
