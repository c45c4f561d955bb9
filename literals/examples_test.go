package literals_test

import (
	"testing"

	"lexprior/api"
)

// TestExamples: those of the chapter; its predicates are the first four of house.
func TestExamples(t *testing.T) {
	preds, class, sorts := house()
	preds, class, sorts = preds[:4], class[:4], sorts[:4]
	ten, twenty := worth(lit(help, 0), 10), worth(lit(help, 0), 20)
	wantMates(t, preds, class, ten, []api.Lit{not(ten), twenty}, api.OK)
	wantMates(t, preds, class, not(ten), []api.Lit{ten}, api.OK)
	wantMates(t, preds, class, lit(single, 1), []api.Lit{not(lit(single, 1)), lit(married, 1)}, api.OK)
	both := []api.Lit{lit(old, 0), not(lit(old, 0))}
	wantClose(t, preds, class, both[:1], both, api.OK)
	wantFoes(t, class, sorts, both, [][]int{{1}, {0}}, api.OK)
}
