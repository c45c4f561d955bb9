package strict_test

import (
	"testing"

	"lexprior/api"
)

func TestLoop(t *testing.T) {
	x := plain(9, rule(0, 1), rule(1, 0), rule(2, 3), rule(3, 4), rule(4, 2), rule(5, 0), rule(6, 5), rule(7))
	wantLoop(t, x, nil, 0, lits(0, 1, 0), api.OK)
	wantLoop(t, x, nil, 1, lits(1, 0, 1), api.OK)
	wantLoop(t, x, nil, 2, lits(2, 3, 4, 2), api.OK)
	wantLoop(t, x, nil, 4, lits(4, 2, 3, 4), api.OK)
	// Those that only lead into a circle are told once.
	wantLoop(t, x, nil, 5, lits(5, 0, 1, 0), api.OK)
	wantLoop(t, x, nil, 6, lits(6, 5, 0, 1, 0), api.OK)
	// One with +D, by a rule and as a fact, and one with -D.
	wantLoop(t, x, nil, 7, nil, api.ErrNone)
	wantLoop(t, x, nil, 8, nil, api.ErrNone)
	wantLoop(t, x, lits(8), 8, nil, api.ErrNone)
	wantLoop(t, x, lits(0), 1, nil, api.ErrNone)
	wantLoop(t, x, lits(0), 6, nil, api.ErrNone)
	wantLoop(t, x, lits(0), 2, lits(2, 3, 4, 2), api.OK)
}

// TestLoopRule: the first strict rule whose body has no literal with -D, wherever that stands in it.
func TestLoopRule(t *testing.T) {
	for _, ahead := range [][]api.Rule{
		nil,
		{rule(0, 4)},                   // -D alone
		{rule(0, 1, 4)},                // -D behind one with neither
		{rule(0, 4, 5)},                // -D ahead of one with +D
		{rule(0, 2, 4), rule(0, 3, 4)}, // two such rules
		{weak(api.Defeasible, 0, 2)},
		{weak(api.Defeater, 0, 3)},
		{weak(api.Defeater, 0), rule(0, 4), weak(api.Defeasible, 0, 1)},
	} {
		x := plain(6, append(ahead, rule(0, 1), rule(0, 2), rule(1, 2), rule(2, 1), rule(3, 0))...)
		wantLoop(t, x, lits(5), 0, lits(0, 1, 2, 1), api.OK)
		wantLoop(t, x, lits(5), 3, lits(3, 0, 1, 2, 1), api.OK)
		// With the rules for 0 turned round, the one of 2 is first.
		x = plain(6, append(ahead, rule(0, 2), rule(0, 1), rule(1, 2), rule(2, 1), rule(3, 0))...)
		wantLoop(t, x, lits(5), 0, lits(0, 2, 1, 2), api.OK)
	}
}

// TestLoopPremise: the first literal of that body without +D.
func TestLoopPremise(t *testing.T) {
	x := plain(6, rule(5, 0, 1, 2, 3), rule(1, 1), rule(2, 2), rule(3, 5), rule(4))
	wantLoop(t, x, lits(0), 5, lits(5, 1, 1), api.OK)
	wantLoop(t, x, lits(0, 1), 5, lits(5, 2, 2), api.OK)
	wantLoop(t, x, lits(0, 1, 2), 5, lits(5, 3, 5), api.OK)
	wantLoop(t, x, lits(0, 1, 2), 3, lits(3, 5, 3), api.OK)
	wantLoop(t, x, lits(0, 1, 2, 3), 5, nil, api.ErrNone)
	wantLoop(t, x, nil, 5, nil, api.ErrNone)
}

// TestLoopOfOne: a literal in its own body, with others there.
func TestLoopOfOne(t *testing.T) {
	wantLoop(t, plain(1, rule(0, 0)), nil, 0, lits(0, 0), api.OK)
	wantLoop(t, plain(1, rule(0, 0)), lits(0), 0, nil, api.ErrNone)
	x := plain(3, rule(1, 0, 1, 2), rule(2, 2))
	wantLoop(t, x, lits(0), 1, lits(1, 1), api.OK)
	wantLoop(t, x, lits(0), 2, lits(2, 2), api.OK)
	wantLoop(t, x, nil, 1, nil, api.ErrNone)
	// The head in the body behind another circle's literal.
	x = plain(3, rule(2, 1, 2), rule(1, 0), rule(0, 1))
	wantLoop(t, x, nil, 2, lits(2, 1, 0, 1), api.OK)
}
