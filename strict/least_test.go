package strict_test

import (
	"testing"

	"lexprior/api"
)

func TestLeast(t *testing.T) {
	x := plain(7, rule(2, 0), rule(3, 1, 2), rule(4), rule(5, 5), rule(6, 3, 4))
	wantLeast(t, x, lits(0, 1), 0, lits(0), api.OK)
	wantLeast(t, x, lits(0, 1), 2, lits(0), api.OK)
	wantLeast(t, x, lits(0, 1), 3, lits(0, 1), api.OK)
	wantLeast(t, x, lits(0, 1), 6, lits(0, 1), api.OK)
	wantLeast(t, x, lits(0, 1, 5), 6, lits(0, 1), api.OK)
	// It may rest on no fact at all.
	wantLeast(t, x, lits(0, 1), 4, nil, api.OK)
	wantLeast(t, x, nil, 4, nil, api.OK)
	// One with neither, and some with -D.
	wantLeast(t, x, lits(0, 1), 5, nil, api.ErrNone)
	wantLeast(t, x, lits(0), 1, nil, api.ErrNone)
	wantLeast(t, x, lits(0), 3, nil, api.ErrNone)
	wantLeast(t, x, nil, 0, nil, api.ErrNone)
}

// TestLeastOfFacts: a fact that is a head too rests on itself alone.
func TestLeastOfFacts(t *testing.T) {
	x := plain(4, rule(1), rule(1, 0), rule(2, 0, 1), rule(3, 2))
	wantLeast(t, x, lits(0, 1), 1, lits(1), api.OK)
	wantLeast(t, x, lits(0, 1), 2, lits(0, 1), api.OK)
	wantLeast(t, x, lits(0), 1, nil, api.OK)
	wantLeast(t, x, lits(0), 2, lits(0), api.OK)
	wantLeast(t, x, lits(0, 2), 2, lits(2), api.OK)
	wantLeast(t, x, lits(0, 2), 3, lits(2), api.OK)
	wantLeast(t, x, lits(0, 1, 2, 3), 3, lits(3), api.OK)
}

// TestLeastRule: by the rule that ends the wait first, though lower ones would do later; of several as early the lowest.
func TestLeastRule(t *testing.T) {
	x := plain(6, rule(3, 0), rule(4, 3), rule(5, 4), rule(5, 2), rule(5, 1))
	wantHeights(t, x, lits(0, 1, 2), lits(1, 1, 1, 2, 3, 2))
	wantLeast(t, x, lits(0, 1, 2), 5, lits(2), api.OK)
	wantLeast(t, x, lits(0, 1), 5, lits(1), api.OK)
	wantLeast(t, x, lits(0), 5, lits(0), api.OK)
	// A rule of the literal's own round, and one that never is used, stand ahead.
	x = plain(7, rule(3, 0), rule(4, 1), rule(5, 4), rule(5, 5), rule(5, 6), rule(5, 2, 3), rule(5, 1, 2), rule(5, 3))
	wantHeights(t, x, lits(0, 1, 2), lits(1, 1, 1, 2, 2, 2, 1))
	wantLeast(t, x, lits(0, 1, 2), 5, lits(1, 2), api.OK)
	wantLeast(t, x, lits(0, 2), 5, lits(0, 2), api.OK)
	wantLeast(t, x, lits(0), 5, lits(0), api.OK)
	wantLeast(t, x, lits(1), 5, lits(1), api.OK)
	// A body that is part of it in the same round is no rule in earlier ones.
	x = plain(4, rule(2, 0), rule(3, 0, 2), rule(3, 1))
	wantLeast(t, x, lits(0, 1), 3, lits(1), api.OK)
	wantLeast(t, x, lits(0), 3, lits(0), api.OK)
	// Without a body, behind others.
	x = plain(2, rule(1, 0), rule(1))
	wantLeast(t, x, lits(0), 1, nil, api.OK)
}

// TestLeastKinds: rules that are not strict are passed over, whole as their bodies are.
func TestLeastKinds(t *testing.T) {
	for _, kind := range []api.Arrow{api.Defeasible, api.Defeater} {
		x := plain(3, weak(kind, 2), weak(kind, 2, 0), rule(2, 1))
		wantLeast(t, x, lits(0, 1), 2, lits(1), api.OK)
		wantLeast(t, x, lits(0), 2, nil, api.ErrNone)
	}
}

// TestLeastOnce: a fact that is met by two ways is told once, and facts rise, whichever is met first.
func TestLeastOnce(t *testing.T) {
	x := plain(6, rule(2, 0), rule(3, 0), rule(4, 2, 3), rule(5, 1, 4))
	wantLeast(t, x, lits(0), 4, lits(0), api.OK)
	wantLeast(t, x, lits(0, 1), 5, lits(0, 1), api.OK)
	x = plain(6, rule(1, 5), rule(2, 4), rule(3, 2, 4, 5), rule(0, 1, 3))
	wantLeast(t, x, lits(4, 5), 0, lits(4, 5), api.OK)
	x = plain(6, rule(0, 1, 2), rule(1, 5), rule(2, 3))
	wantLeast(t, x, lits(3, 5), 0, lits(3, 5), api.OK)
	x.Rules[1].Body, x.Rules[2].Body = lits(4), lits(3)
	wantLeast(t, x, lits(3, 4, 5), 0, lits(3, 4), api.OK)
}

// TestLeastInCircles: circles that facts end.
func TestLeastInCircles(t *testing.T) {
	x := plain(4, rule(0, 1), rule(1, 0), rule(1, 2), rule(0, 3))
	wantLeast(t, x, lits(2), 0, lits(2), api.OK)
	wantLeast(t, x, lits(2), 1, lits(2), api.OK)
	wantLeast(t, x, lits(3), 1, lits(3), api.OK)
	wantLeast(t, x, lits(2, 3), 0, lits(3), api.OK)
	wantLeast(t, x, lits(2, 3), 1, lits(2), api.OK)
}
