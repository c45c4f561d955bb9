package strict_test

import "testing"

// TestTwoRounds: a literal that could be said in two rounds is said in the first of them, wherever the rules stand.
func TestTwoRounds(t *testing.T) {
	// 4 by 3 in round 5, or by 1 in round 3.
	wantHeights(t, plain(5, rule(1, 0), rule(2, 1), rule(3, 2), rule(4, 3), rule(4, 1)), lits(0), lits(1, 2, 3, 4, 3))
	wantHeights(t, plain(5, rule(4, 1), rule(4, 3), rule(3, 2), rule(2, 1), rule(1, 0)), lits(0), lits(1, 2, 3, 4, 3))
	// Of a fact, or of a rule without a body, and of one with.
	wantHeights(t, plain(3, rule(1, 0), rule(2, 1)), lits(0, 2), lits(1, 2, 1))
	wantHeights(t, plain(3, rule(1, 0), rule(2, 1), rule(2)), lits(0), lits(1, 2, 1))
	// -D of a body with two literals that have it: by the one that is said first.
	wantHeights(t, plain(4, rule(1, 0), rule(2, 1), rule(3, 0, 2)), nil, lits(1, 2, 3, 2))
	wantHeights(t, plain(4, rule(3, 1, 2), rule(2, 1), rule(1, 0)), nil, lits(1, 2, 3, 3))
}

// TestLastOfBody: +D waits for the last literal of a body, -D for the last rule.
func TestLastOfBody(t *testing.T) {
	wantHeights(t, plain(5, rule(1, 0), rule(2, 1), rule(3, 0, 2), rule(4, 0, 1, 2, 3)), lits(0), lits(1, 2, 3, 4, 5))
	wantHeights(t, plain(5, rule(1, 0), rule(2, 1), rule(3, 0), rule(3, 2), rule(4, 1), rule(4, 0)), nil, lits(1, 2, 3, 4, 3))
	// The literals in a body with the higher numbers are said first.
	wantHeights(t, plain(5, rule(2, 3), rule(1, 2), rule(0, 1, 3, 4)), lits(3, 4), lits(4, 3, 2, 1, 1))
}

// TestBothSigns: rounds of +D and of -D go on beside each other.
func TestBothSigns(t *testing.T) {
	x := plain(7, rule(1, 0), rule(3, 2), rule(4, 1), rule(4, 3), rule(5, 1, 3), rule(6, 4), rule(6, 5))
	wantTags(t, x, lits(0), lits(0, 1, 4, 6), lits(2, 3, 5), nil)
	wantHeights(t, x, lits(0), lits(1, 2, 1, 2, 3, 3, 4))
	wantTags(t, x, lits(2), lits(2, 3, 4, 6), lits(0, 1, 5), nil)
	wantHeights(t, x, lits(2), lits(1, 2, 1, 2, 3, 3, 4))
	wantTags(t, x, lits(0, 2), upTo(7), nil, nil)
	wantHeights(t, x, lits(0, 2), lits(1, 2, 1, 2, 3, 3, 4))
	wantTags(t, x, nil, nil, upTo(7), nil)
	wantHeights(t, x, nil, lits(1, 2, 1, 2, 3, 3, 4))
	x.Rules = append(x.Rules, rule(3, 3))
	x.Beats = make([][]int, len(x.Rules))
	wantTags(t, x, lits(0), lits(0, 1, 4, 6), lits(2), lits(3, 5))
	wantHeights(t, x, lits(0), lits(1, 2, 1, 0, 3, 0, 4))
}
