package printer_test

import (
	"math/rand"
	"strings"
	"testing"

	"lexprior/api"
	"lexprior/lexer"
	"lexprior/printer"
	"lexprior/syntax"
)

func normal(t *testing.T, text, want string) {
	t.Helper()
	if form, errno, at := printer.Normal(text); form != want || errno != api.OK || at != len(text) {
		t.Errorf("P6.3: Normal(%q): %q, %d, %d, want %q", text, form, errno, at, want)
	}
}

func TestNormal(t *testing.T) {
	for _, text := range []string{"", " ", "\n\n", "# kind a.", "statute \"\".", "statute\"\".#"} {
		normal(t, text, "")
	}
	normal(t, `statute"Help".`, "statute \"Help\".\n")
	normal(t, "exception a to b.kind k.total t(k):p,q cap 7.50.class a,b , c.source s rank 007.member x,y:k.amount m(k,l):1,- 2.50.number n.pred p(k).kind l. # end", `kind k.
kind l.
member x : k.
member y : k.
amount m(k, l) : 1, -2.50.
number n.
pred p(k).
class a, b, c.
source s rank 7.
exception a to b.
total t(k) : p, q cap 7.50.
`)
	normal(t, "rule\nr of s at 2001-05-01 until\t2002-05-01:p,-q(X,a)=- 5,X!=a,{1*n+-5--6-007*n(X)<=-5}~>-p=0.rule r of s at 2001-05-01:->p.", `rule r of s at 2001-05-01 until 2002-05-01 : p, -q(X, a) = -5, X != a, {n - 5 + 6 - 7*n(X) <= -5} ~> -p = 0.
rule r of s at 2001-05-01 : -> p.
`)
}

// TestNormalOfWhatIsNotRead: Parse's error and place.
func TestNormalOfWhatIsNotRead(t *testing.T) {
	for _, each := range []struct {
		text  string
		errno api.Errno
		at    int
	}{
		{"kind person", api.ErrToken, 11},
		{"kind rule.", api.ErrToken, 5},
		{"source a rank 1001.", api.ErrRange, 14},
		{"kind a. ?", api.ErrByte, 8},
		{"statute \"a\n\".", api.ErrQuote, 8},
		{"kind " + strings.Repeat("a", 33) + ".", api.ErrLong, 5},
		{strings.Repeat(" ", api.MaxText+1), api.ErrLong, 0},
		{"amount a : 05.", api.ErrMoney, 11},
		{"amount a : 10000000000000.01.", api.ErrOver, 11},
		{strings.Repeat("kind a.", 17), api.ErrCount, 16*7 + 5},
		{"rule r of s at 2001-02-29 : => p.", api.ErrToken, 15},
	} {
		if form, errno, at := printer.Normal(each.text); form != "" || errno != each.errno || at != each.at {
			t.Errorf("P6.3: Normal(%.100q): %q, %d, %d, want %d, %d", each.text, form, errno, at, each.errno, each.at)
		}
	}
}

// tight: a text whose form is longer than it, by so many bytes more than MaxText.
func tight(over int) string {
	item := "rule r of s at 2001-01-01:p(a,b,c,d)=>p."
	form := "rule r of s at 2001-01-01 : p(a, b, c, d) => p.\n"
	text := strings.Repeat(item, 400)
	title := api.MaxText + over - 400*len(form) - len("statute \"\".\n")
	return "statute\"" + ofBytes(title) + "\"." + text
}

func TestNormalOfWhatIsTooLong(t *testing.T) {
	for _, over := range []int{-1, 0} {
		text := tight(over)
		if form, errno, at := printer.Normal(text); len(form) != api.MaxText+over || errno != api.OK || at != len(text) {
			t.Errorf("P6.3: a form of %d bytes: %d bytes, %d, %d", api.MaxText+over, len(form), errno, at)
		}
	}
	for _, over := range []int{1, 2, 500} {
		text := tight(over)
		if _, errno, _ := syntax.Parse(text); errno != api.OK {
			t.Errorf("P5.1: Parse of %d bytes: %d", len(text), errno)
		}
		if form, errno, at := printer.Normal(text); form != "" || errno != api.ErrLong || at != 0 {
			t.Errorf("P6.3: a form of %d bytes: %d bytes, %d, %d", api.MaxText+over, len(form), errno, at)
		}
	}
}

// gaps is what may stand between tokens.
var gaps = []string{" ", "\n", "\t\r ", " # a remark. kind \"x\n", "\n#\n#\n", "  \n\n  "}

// respaced: the tokens of a text with other blanks between.
func respaced(t *testing.T, chance *rand.Rand, text string) string {
	t.Helper()
	tokens, errno, _ := lexer.Tokens(text)
	if errno != api.OK {
		t.Fatalf("P4.1: Tokens(%q): %d", text, errno)
	}
	var b strings.Builder
	for _, token := range tokens {
		text, _ := lexer.Text(token)
		b.WriteString(gaps[chance.Intn(len(gaps))])
		b.WriteString(text)
	}
	return b.String()
}

func TestNormalOfTextsSpacedAnyhow(t *testing.T) {
	m := newMaker(62)
	for range 1000 {
		form, errno := printer.Print(m.statute())
		if errno != api.OK {
			t.Fatalf("P6.1: a statute that has a form: %d", errno)
		}
		normal(t, form, form)
		if text := respaced(t, m.chance, form); len(text) <= api.MaxText {
			normal(t, text, form)
		}
	}
}

// checkNormal: what P6.3 to P6.5 say of a text.
func checkNormal(t *testing.T, text string) api.Errno {
	t.Helper()
	form, errno, at := printer.Normal(text)
	read, readErrno, readAt := syntax.Parse(text)
	if readErrno != api.OK {
		if form != "" || errno != readErrno || at != readAt {
			t.Fatalf("P6.3: Normal(%q): %q, %d, %d, want Parse's %d, %d", text, form, errno, at, readErrno, readAt)
		}
		return errno
	}
	if errno == api.ErrLong {
		if form != "" || at != 0 {
			t.Fatalf("P6.3: Normal(%q): %q, %d, %d", text, form, errno, at)
		}
		return errno
	}
	if errno != api.OK || at != len(text) {
		t.Fatalf("P6.4: Normal(%q): what Parse reads has a form: %d, %d", text, errno, at)
	}
	if again, errno, _ := syntax.Parse(form); errno != api.OK || !same(again, read) {
		t.Fatalf("P6.4: Parse(Normal(%q)): %+v, %d, want %+v", text, again, errno, read)
	}
	normal(t, form, form)
	return errno
}

// TestNormalOfSpoiltTexts: a token or two of a form are others, or not there.
func TestNormalOfSpoiltTexts(t *testing.T) {
	m := newMaker(63)
	others := append(strings.Fields(`-> => ~> != <= >= == <> < > ( ) { } , . : = - + * a X 0 1 007 1000 1001 2.5 2.50 99999999999999999999 10000000000000.01 2001-05-01 2001-02-30 "" "a" ?`), grammarWords...)
	var faults [100]int
	for range 4000 {
		form, _ := printer.Print(m.statute())
		tokens, _, _ := lexer.Tokens(form)
		if len(tokens) == 0 {
			continue
		}
		words := make([]string, len(tokens))
		for i, token := range tokens {
			words[i], _ = lexer.Text(token)
		}
		for range 1 + m.chance.Intn(2) {
			words[m.chance.Intn(len(words))] = pick(m, append(others, "")...)
		}
		faults[checkNormal(t, strings.Join(words, " "))]++
	}
	for _, errno := range []api.Errno{api.OK, api.ErrToken, api.ErrByte, api.ErrMoney, api.ErrOver, api.ErrRange} {
		if faults[errno] < 3 {
			t.Errorf("only %d of the texts have the error %d", faults[errno], errno)
		}
	}
}

// FuzzNormal: nothing panics, and all is as the chapter says, whatever bytes there are.
func FuzzNormal(f *testing.F) {
	m := newMaker(64)
	for range 50 {
		form, _ := printer.Print(m.statute())
		f.Add(form)
	}
	f.Add("rule r of s at 2001-05-01:{-5--6-007*n(X)<=-5}~>-p=0.")
	f.Fuzz(func(t *testing.T, text string) { checkNormal(t, text) })
}
