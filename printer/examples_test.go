package printer_test

import (
	"testing"

	"lexprior/api"
	"lexprior/printer"
)

// TestExamples: those of the chapter.
func TestExamples(t *testing.T) {
	text := "kind  person.member a,b:person."
	if form, errno, at := printer.Normal(text); form != "kind person.\nmember a : person.\nmember b : person.\n" || errno != api.OK || at != len(text) {
		t.Errorf("example 1: %q, %d, %d", form, errno, at)
	}
	income := []api.TermText{{Coef: 1, Pred: "income", Args: []string{"X"}}}
	rent := api.TermText{Coef: 2, Pred: "rent", Args: []string{"X"}}
	guard := api.GuardText{Left: []api.TermText{rent, {Value: -550}}, Op: api.OpLess, Right: income}
	if form, errno := printer.Guard(guard); form != "{2*rent(X) - 5.50 < income(X)}" || errno != api.OK {
		t.Errorf("example 2: %q, %d", form, errno)
	}
	rent.Coef = -1
	guard.Left[0] = rent
	if form, errno := printer.Guard(guard); form != "" || errno != api.ErrForm {
		t.Errorf("example 2: a first term below 0: %q, %d", form, errno)
	}
}
