package syntax_test

import (
	"testing"

	"lexprior/api"
)

// TestExamples: those of the chapter.
func TestExamples(t *testing.T) {
	s := parsed(t, `statute "Help". kind person. member anna, ben : person. pred old(person). amount help(person) : 10, 20.50. source act rank 2. rule r1 of act at 2001-05-01 : old(X), {income(X) + 5 < 2*rent(X)} => help(X) = 10.`)
	x := []string{"X"}
	want := api.Statute{
		Title:   "Help",
		Kinds:   []string{"person"},
		Members: []api.MemberText{{Name: "anna", Kind: "person"}, {Name: "ben", Kind: "person"}},
		Preds:   []api.PredText{{Name: "old", Sort: api.SortPlain, Kinds: []string{"person"}}, {Name: "help", Sort: api.SortAmount, Kinds: []string{"person"}, Values: []api.Money{1000, 2050}}},
		Sources: []api.SourceText{{Name: "act", Rank: 2}},
		Rules: []api.RuleText{{
			Name: "r1", Source: "act", At: 730606, Arrow: api.Defeasible,
			Body: []api.PremiseText{
				{Kind: api.PremiseLit, Lit: api.LitText{Pred: "old", Args: x}},
				{Kind: api.PremiseGuard, Guard: api.GuardText{
					Left:  []api.TermText{{Coef: 1, Pred: "income", Args: x}, {Value: 500}},
					Op:    api.OpLess,
					Right: []api.TermText{{Coef: 2, Pred: "rent", Args: x}},
				}},
			},
			Head: api.LitText{Pred: "help", Args: x, HasValue: true, Value: 1000},
		}},
	}
	if told(s) != told(want) {
		t.Errorf("example 1: %s, want %s", told(s), told(want))
	}
	if r := ruleOf(t, "rule r of a at 2001-01-01 : => p."); len(r.Body) != 0 || r.Arrow != api.Defeasible || r.Head.Pred != "p" {
		t.Errorf("example 2: an empty body: %v", r)
	}
	r := ruleOf(t, "rule r of a at 2001-01-01 : X != anna -> -p(X).")
	if len(r.Body) != 1 || bodies(r.Body) != bodies([]api.PremiseText{{Kind: api.PremiseUnlike, A: "X", B: "anna"}}) || r.Arrow != api.Strict || !r.Head.Neg || r.Head.Pred != "p" {
		t.Errorf("example 2: unlike ones: %v", r)
	}
	refused(t, "kind person", api.ErrToken, 11)
	refused(t, "kind rule.", api.ErrToken, 5)
	refused(t, "source a rank 1001.", api.ErrRange, 14)
}
