package syntax_test

import (
	"math/rand"
	"slices"
	"strings"
	"testing"

	"lexprior/api"
	"lexprior/lexer"
	"lexprior/syntax"
)

// textsOf: of each token of a text, how it is written.
func textsOf(t *testing.T, s string) []string {
	t.Helper()
	tokens, errno, _ := lexer.Tokens(s)
	if errno != api.OK {
		t.Fatalf("P4.1: Tokens(%q): %d", s, errno)
	}
	var texts []string
	for _, token := range tokens {
		text, _ := lexer.Text(token)
		texts = append(texts, text)
	}
	return texts
}

// anyText: made of bytes and of tokens.
func anyText(chance *rand.Rand, pieces []string) string {
	var b strings.Builder
	for range chance.Intn(30) {
		b.WriteString(pieces[chance.Intn(len(pieces))])
		if chance.Intn(8) > 0 {
			b.WriteString(" ")
		}
		if chance.Intn(100) == 0 {
			b.WriteByte(byte(chance.Intn(256)))
		}
	}
	return b.String()
}

func checkAnswer(t *testing.T, s string) {
	t.Helper()
	statute, errno, at := syntax.Parse(s)
	if at < 0 || at > len(s) {
		t.Errorf("P5.2: Parse(%q): the place %d", s, at)
	}
	if errno != api.OK && told(statute) != told(api.Statute{}) {
		t.Errorf("P5.2: Parse(%q): beside an error there is a statute: %s", s, told(statute))
	}
}

func TestAnyText(t *testing.T) {
	text := readGrammar()
	chance := rand.New(rand.NewSource(7))
	pieces := append(anyTokens(), strings.Fields("kind_a. kind rule_r_of_a_at_2001-01-01_: p(X) {a _<_b} _=>_p. # ?")...)
	for i := range pieces {
		pieces[i] = strings.ReplaceAll(pieces[i], "_", " ")
	}
	for range 20000 {
		s := anyText(chance, pieces)
		checkAnswer(t, s)
		checkVerdict(t, text, s)
	}
}

func TestEachBeginningAndEndOfAText(t *testing.T) {
	text := readGrammar()
	for at := range whole {
		for _, s := range []string{whole[:at], whole[at:], whole[:at] + whole[at+1:]} {
			checkAnswer(t, s)
			checkVerdict(t, text, s)
		}
	}
}

// numberOfToken: which token stands at a place; how many there are, if it is the end.
func numberOfToken(s string, at int) int {
	tokens, _, _ := lexer.Tokens(s)
	number := slices.IndexFunc(tokens, func(t api.Token) bool { return t.At == at })
	if at == len(s) {
		return len(tokens)
	}
	return number
}

// TestGapsChangeNothing: of what is read, and of what is refused.
func TestGapsChangeNothing(t *testing.T) {
	chance := rand.New(rand.NewSource(8))
	others := anyTokens()
	for _, each := range someStatutes(1500, 53) {
		tokens := each.tokens()
		if chance.Intn(2) == 0 && len(tokens) > 0 {
			tokens[chance.Intn(len(tokens))] = others[chance.Intn(len(others))]
		}
		plain := strings.Join(tokens, " ")
		statute, errno, at := syntax.Parse(plain)
		for range 3 {
			s := spread(chance, tokens)
			if len(s) > api.MaxText {
				continue
			}
			gotStatute, gotErrno, gotAt := syntax.Parse(s)
			if told(gotStatute) != told(statute) || gotErrno != errno || numberOfToken(s, gotAt) != numberOfToken(plain, at) {
				t.Fatalf("P5.3: Parse(%q): %s, %d, %d; of %q: %s, %d, %d", s, told(gotStatute), gotErrno, gotAt, plain, told(statute), errno, at)
			}
		}
	}
}

// swapped: the items in another order, in which those of one kind stay as they were.
func swapped(chance *rand.Rand, each made) []string {
	order := chance.Perm(8)
	for range 30 {
		if len(each.items) < 2 {
			break
		}
		at := chance.Intn(len(each.items) - 1)
		if each.kinds[at] != each.kinds[at+1] && (order[each.kinds[at]] > order[each.kinds[at+1]] || chance.Intn(2) == 0) {
			each.kinds[at], each.kinds[at+1] = each.kinds[at+1], each.kinds[at]
			each.items[at], each.items[at+1] = each.items[at+1], each.items[at]
		}
	}
	return each.tokens()
}

func TestItemsOfUnlikeKindsChangePlaces(t *testing.T) {
	chance := rand.New(rand.NewSource(9))
	for _, each := range someStatutes(1500, 54) {
		s := closed(swapped(chance, each))
		if got := told(parsed(t, s)); got != told(each.statute) {
			t.Fatalf("P5.3: Parse(%q): %s, want %s", s, got, told(each.statute))
		}
	}
}

// both: the lists of two statutes, one behind the other.
func both(a, b api.Statute) api.Statute {
	return api.Statute{
		Title:   a.Title,
		Kinds:   slices.Concat(a.Kinds, b.Kinds),
		Members: slices.Concat(a.Members, b.Members),
		Preds:   slices.Concat(a.Preds, b.Preds),
		Classes: slices.Concat(a.Classes, b.Classes),
		Sources: slices.Concat(a.Sources, b.Sources),
		Rules:   slices.Concat(a.Rules, b.Rules),
		Excepts: slices.Concat(a.Excepts, b.Excepts),
		Totals:  slices.Concat(a.Totals, b.Totals),
	}
}

func TestOneTextBehindAnother(t *testing.T) {
	all := someStatutes(400, 55)
	for i, first := range all {
		for _, second := range all[max(0, i-5):i] {
			second.title = nil
			a, b := closed(first.tokens()), closed(second.tokens())
			if len(a)+len(b) > api.MaxText {
				continue
			}
			want := both(parsed(t, a), parsed(t, b))
			if len(want.Kinds) > api.MaxKinds || len(want.Members) > api.MaxMembers {
				continue
			}
			if got := parsed(t, a+b); told(got) != told(want) {
				t.Fatalf("P5.4: Parse(%q): %s, want %s", a+b, told(got), told(want))
			}
		}
	}
}
