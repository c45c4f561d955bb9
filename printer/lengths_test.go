package printer_test

import (
	"strings"
	"testing"

	"lexprior/api"
	"lexprior/printer"
)

func ofBytes(count int) string {
	return strings.Repeat("x", count)
}

// full: a statute of many lists, whose form has so many bytes.
func full(t *testing.T, size int) api.Statute {
	t.Helper()
	m := newMaker(61)
	s := m.statute()
	s.Title = "x"
	for range 250 {
		s.Rules = append(s.Rules, m.rule())
	}
	form, errno := printer.Print(s)
	if errno != api.OK || len(form) < api.MaxText/2 {
		t.Fatalf("the form of a full statute has %d bytes, %d", len(form), errno)
	}
	s.Title = ofBytes(1 + size - len(form))
	return s
}

func TestFormsOfMaxText(t *testing.T) {
	for _, count := range []int{api.MaxText - 1, api.MaxText} {
		for _, s := range []api.Statute{{Title: ofBytes(count - len("statute \"\".\n"))}, full(t, count)} {
			if form, errno := printer.Print(s); len(form) != count || errno != api.OK {
				t.Errorf("P6.1: a form of %d bytes: %d bytes, %d", count, len(form), errno)
			}
		}
	}
	for _, count := range []int{api.MaxText + 1, api.MaxText + 2, 2 * api.MaxText, 100 * api.MaxText} {
		refused(t, api.Statute{Title: ofBytes(count - len("statute \"\".\n"))}, api.ErrLong)
		refused(t, full(t, count), api.ErrLong)
	}
}

// TestLengthAheadOfWhatIsRead: a name that is too long is ErrForm, as long as there is room for it.
func TestLengthAheadOfWhatIsRead(t *testing.T) {
	refused(t, api.Statute{Kinds: []string{ofBytes(api.MaxText - len("kind .\n"))}}, api.ErrForm)
	refused(t, api.Statute{Kinds: []string{ofBytes(api.MaxText - len("kind .\n") + 1)}}, api.ErrLong)
	// The one byte that does not fit is the last, and no short text behind a long one is taken for the whole.
	refused(t, api.Statute{Kinds: []string{ofBytes(api.MaxText), "a"}}, api.ErrLong)
	refused(t, api.Statute{Title: "t", Kinds: []string{ofBytes(api.MaxText), "a"}, Classes: [][]string{{}}}, api.ErrLong)
}

func TestLengthOfARule(t *testing.T) {
	around := len("rule  of s at 0001-01-01 : => p.\n")
	r := api.RuleText{Source: "s", At: 1, Arrow: api.Defeasible, Head: api.LitText{Pred: "p"}}
	for extra, want := range []api.Errno{api.ErrForm, api.ErrLong} {
		r.Name = ofBytes(api.MaxText - around + extra)
		if form, errno := printer.Rule(r); form != "" || errno != want {
			t.Errorf("P6.2: a rule's line of %d bytes: %d bytes, %d, want %d", api.MaxText+extra, len(form), errno, want)
		}
	}
	r.At = 0
	if form, errno := printer.Rule(r); form != "" || errno != api.ErrForm {
		t.Errorf("P6.2: a rule without a day, that is too long: %q, %d", form, errno)
	}
}

func TestLengthOfALiteral(t *testing.T) {
	around := len("rule r of s at 0001-01-01 :  => p.\n")
	for extra, want := range []api.Errno{api.ErrForm, api.ErrLong} {
		l := api.LitText{Pred: ofBytes(api.MaxText - around + extra)}
		if form, errno := printer.Literal(l); form != "" || errno != want {
			t.Errorf("P6.2: a literal of %d bytes: %d bytes, %d, want %d", len(l.Pred), len(form), errno, want)
		}
		l.HasValue, l.Value = true, badMoney[0]
		if form, errno := printer.Literal(l); form != "" || errno != api.ErrForm {
			t.Errorf("P6.2: a literal of a value without a form: %d bytes, %d", len(form), errno)
		}
	}
}

func TestLengthOfAGuard(t *testing.T) {
	around := len("rule r of s at 0001-01-01 : {1 < } => p.\n")
	for extra, want := range []api.Errno{api.ErrForm, api.ErrLong} {
		g := api.GuardText{Left: sum(cents(100)), Op: api.OpLess, Right: sum(api.TermText{Coef: 1, Pred: ofBytes(api.MaxText - around + extra)})}
		if form, errno := printer.Guard(g); form != "" || errno != want {
			t.Errorf("P6.2: a guard whose rule's form has %d bytes: %d bytes, %d, want %d", api.MaxText+extra, len(form), errno, want)
		}
		g.Op = 0
		if form, errno := printer.Guard(g); form != "" || errno != api.ErrForm {
			t.Errorf("P6.2: a guard of no Op: %d bytes, %d", len(form), errno)
		}
	}
}
