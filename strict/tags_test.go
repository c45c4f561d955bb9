package strict_test

import (
	"slices"
	"testing"

	"lexprior/api"
)

func TestNothingMuch(t *testing.T) {
	wantTags(t, api.Theory{}, nil, nil, nil, nil)
	wantTags(t, api.Theory{}, []int{}, nil, nil, nil)
	wantHeights(t, api.Theory{}, nil, nil)
	wantClash(t, api.Theory{}, nil)

	// Without rules facts have +D, all else -D.
	wantTags(t, plain(3), nil, nil, lits(0, 1, 2), nil)
	wantTags(t, plain(3), lits(1), lits(1), lits(0, 2), nil)
	wantTags(t, plain(3), upTo(3), upTo(3), nil, nil)
	wantHeights(t, plain(3), nil, lits(1, 1, 1))
	wantHeights(t, plain(3), lits(1), lits(1, 1, 1))
}

func TestEmptyBodies(t *testing.T) {
	x := plain(4, rule(1), rule(1), rule(2, 1))
	wantTags(t, x, nil, lits(1, 2), lits(0, 3), nil)
	wantHeights(t, x, nil, lits(1, 1, 2, 1))
	wantTags(t, x, lits(3), lits(1, 2, 3), lits(0), nil)
	wantTags(t, x, lits(1), lits(1, 2), lits(0, 3), nil)
	wantTags(t, plain(2, rule(0, 1), rule(0)), nil, lits(0), lits(1), nil)
	wantTags(t, plain(2, rule(0), rule(0, 1)), nil, lits(0), lits(1), nil)
}

// TestWholeBodies: one literal that has no +D is enough, wherever it stands.
func TestWholeBodies(t *testing.T) {
	x := plain(4, rule(3, 0, 1, 2))
	wantTags(t, x, upTo(3), upTo(4), nil, nil)
	wantHeights(t, x, upTo(3), lits(1, 1, 1, 2))
	for _, facts := range [][]int{{0, 1}, {0, 2}, {1, 2}, {0}, {1}, {2}, nil} {
		var others []int
		for lit := range 4 {
			if lit == 3 || !slices.Contains(facts, lit) {
				others = append(others, lit)
			}
		}
		wantTags(t, x, facts, facts, others, nil)
		wantHeights(t, x, facts, lits(1, 1, 1, 2))
	}
}

// TestHeadInBody: such a rule never comes to be used, and its head has neither, if nothing else is there for it.
func TestHeadInBody(t *testing.T) {
	wantTags(t, plain(1, rule(0, 0)), nil, nil, nil, lits(0))
	wantTags(t, plain(1, rule(0, 0)), lits(0), lits(0), nil, nil)
	wantHeights(t, plain(1, rule(0, 0)), nil, lits(0))
	wantHeights(t, plain(1, rule(0, 0)), lits(0), lits(1))
	wantTags(t, plain(1, rule(0, 0), rule(0)), nil, lits(0), nil, nil)

	x := plain(3, rule(0, 0, 1))
	wantTags(t, x, nil, nil, lits(0, 1, 2), nil) // by 1, which has -D
	wantHeights(t, x, nil, lits(2, 1, 1))
	wantTags(t, x, lits(1), lits(1), lits(2), lits(0))
	wantTags(t, x, lits(0), lits(0), lits(1, 2), nil)

	x = plain(3, rule(0, 0, 1), rule(0, 2))
	wantTags(t, x, lits(1, 2), lits(0, 1, 2), nil, nil)
	wantTags(t, x, lits(1), lits(1), lits(2), lits(0))
	wantTags(t, x, lits(2), lits(0, 2), lits(1), nil)
	wantTags(t, x, nil, nil, lits(0, 1, 2), nil)
}

// TestKinds: rules that are not strict count for nothing, neither for +D nor against -D.
func TestKinds(t *testing.T) {
	for _, kind := range []api.Arrow{api.Defeasible, api.Defeater} {
		x := plain(3, weak(kind, 1, 0), weak(kind, 2), weak(kind, 0, 0))
		wantTags(t, x, nil, nil, lits(0, 1, 2), nil)
		wantHeights(t, x, nil, lits(1, 1, 1))
		wantTags(t, x, lits(0), lits(0), lits(1, 2), nil)

		x = plain(4, weak(kind, 1, 0), rule(1, 2), weak(kind, 3), rule(2, 0, 3))
		wantTags(t, x, lits(0), lits(0), lits(1, 2, 3), nil)
		wantHeights(t, x, lits(0), lits(1, 3, 2, 1))
		wantTags(t, x, lits(2), lits(1, 2), lits(0, 3), nil)

		// Ahead of a strict one in the list, for the same head and of the same body.
		x = plain(3, weak(kind, 1, 2), rule(1, 0), weak(kind, 1, 0))
		wantTags(t, x, lits(0), lits(0, 1), lits(2), nil)
		wantTags(t, x, lits(2), lits(2), lits(0, 1), nil)
		wantLeast(t, x, lits(0, 2), 1, lits(0), api.OK)
	}
}

// TestFactAndHead: a fact has +D, whatever becomes of the rules for it.
func TestFactAndHead(t *testing.T) {
	x := plain(4, rule(1, 0), rule(2, 1), rule(1, 3))
	wantTags(t, x, lits(1), lits(1, 2), lits(0, 3), nil)
	wantHeights(t, x, lits(1), lits(1, 1, 2, 1))
	wantTags(t, x, lits(0, 1), lits(0, 1, 2), lits(3), nil)
	wantHeights(t, x, lits(0, 1), lits(1, 1, 2, 1))
	wantTags(t, plain(2, rule(0, 1), rule(1, 0)), lits(1), lits(0, 1), nil, nil)
}

// TestSeveralRules: one that is used is enough for +D, all must be refuted for -D.
func TestSeveralRules(t *testing.T) {
	x := plain(6, rule(5, 0), rule(5, 1), rule(5, 2, 3))
	wantTags(t, x, nil, nil, upTo(6), nil)
	wantTags(t, x, lits(0), lits(0, 5), lits(1, 2, 3, 4), nil)
	wantTags(t, x, lits(1), lits(1, 5), lits(0, 2, 3, 4), nil)
	wantTags(t, x, lits(2), lits(2), lits(0, 1, 3, 4, 5), nil)
	wantTags(t, x, lits(2, 3), lits(2, 3, 5), lits(0, 1, 4), nil)
	wantTags(t, x, upTo(4), lits(0, 1, 2, 3, 5), lits(4), nil)

	// Of three rules one waits for ever: neither, till another is used.
	x = plain(4, rule(0, 1), rule(0, 2), rule(0, 3), rule(2, 2))
	wantTags(t, x, nil, nil, lits(1, 3), lits(0, 2))
	wantTags(t, x, lits(3), lits(0, 3), lits(1), lits(2))
	wantTags(t, x, lits(2), lits(0, 2), lits(1, 3), nil)
	// The same rule many times.
	x = plain(2, rule(0, 1), rule(0, 1), rule(0, 1))
	wantTags(t, x, nil, nil, lits(0, 1), nil)
	wantTags(t, x, lits(1), lits(0, 1), nil, nil)
}

// TestTwoRefutations: a body in which two literals have -D is refuted once, and leaves the other rules for its head open.
func TestTwoRefutations(t *testing.T) {
	x := plain(4, rule(0, 1, 2), rule(0, 3), rule(3, 3))
	wantTags(t, x, nil, nil, lits(1, 2), lits(0, 3))
	wantTags(t, x, lits(3), lits(0, 3), lits(1, 2), nil)
	x = plain(6, rule(0, 1, 2, 3), rule(0, 4), rule(0, 5), rule(5, 5))
	wantTags(t, x, nil, nil, lits(1, 2, 3, 4), lits(0, 5))
}

func TestCircles(t *testing.T) {
	// Two, and three, and one that leads in.
	x := plain(6, rule(0, 1), rule(1, 0), rule(2, 3), rule(3, 4), rule(4, 2), rule(5, 0))
	wantTags(t, x, nil, nil, nil, upTo(6))
	wantHeights(t, x, nil, make([]int, 6))
	wantTags(t, x, lits(1), lits(0, 1, 5), nil, lits(2, 3, 4))
	wantHeights(t, x, lits(1), lits(2, 1, 0, 0, 0, 3))
	wantTags(t, x, lits(4), lits(2, 3, 4), nil, lits(0, 1, 5))
	wantTags(t, x, lits(5), lits(5), nil, upTo(5))
	// A way into the circle ends it, if it is used; if it is refuted, it does not.
	x = plain(4, rule(0, 1), rule(1, 0), rule(1, 2), rule(3, 0))
	wantTags(t, x, nil, nil, lits(2), lits(0, 1, 3))
	wantTags(t, x, lits(2), upTo(4), nil, nil)
	wantHeights(t, x, lits(2), lits(3, 2, 1, 4))
	// A literal with -D in a body of the circle refutes all of it.
	x = plain(4, rule(0, 1), rule(1, 0, 2), rule(3, 0))
	wantTags(t, x, nil, nil, upTo(4), nil)
	wantHeights(t, x, nil, lits(3, 2, 1, 4))
	wantTags(t, x, lits(2), lits(2), nil, lits(0, 1, 3))
}

// TestFoesDoNotMatter: nor which rule beats which.
func TestFoesDoNotMatter(t *testing.T) {
	x := plain(4, rule(1, 0), rule(2, 0), rule(3, 2))
	enemies(&x, 1, 2)
	enemies(&x, 0, 3)
	x.Beats[0] = lits(1)
	wantTags(t, x, lits(0), upTo(4), nil, nil)
	wantHeights(t, x, lits(0), lits(1, 2, 2, 3))
	wantTags(t, x, nil, nil, upTo(4), nil)
}
