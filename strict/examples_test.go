package strict_test

import (
	"testing"

	"lexprior/api"
)

// TestExamples: those of the chapter.
func TestExamples(t *testing.T) {
	x := plain(4, rule(1, 0), rule(2, 1), rule(3, 3))
	wantTags(t, x, lits(0), lits(0, 1, 2), nil, lits(3))
	wantHeights(t, x, lits(0), lits(1, 2, 3, 0))
	wantLoop(t, x, lits(0), 3, lits(3, 3), api.OK)

	wantTags(t, x, nil, nil, lits(0, 1, 2), lits(3))
	wantHeights(t, x, nil, lits(1, 2, 3, 0))
	wantLoop(t, x, nil, 3, lits(3, 3), api.OK)
}
