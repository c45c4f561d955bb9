package strict_test

import (
	"testing"

	"lexprior/api"
)

func TestClash(t *testing.T) {
	wantClash(t, plain(3), upTo(3)) // no foes
	x := plain(6, rule(3, 0), rule(4, 1), rule(5, 5))
	enemies(&x, 0, 1)
	enemies(&x, 3, 4, 5)
	wantClash(t, x, nil)
	wantClash(t, x, lits(0)) // one of each two
	wantClash(t, x, lits(1))
	wantClash(t, x, lits(0, 4), pair(3, 4))
	wantClash(t, x, lits(0, 1), pair(0, 1), pair(3, 4))
	wantClash(t, x, lits(0, 1, 5), pair(0, 1), pair(3, 4), pair(3, 5), pair(4, 5))
	wantClash(t, x, lits(3, 5), pair(3, 5))
	wantClash(t, x, upTo(6), pair(0, 1), pair(3, 4), pair(3, 5), pair(4, 5))
}

func pair(a, b int) api.Pair {
	return api.Pair{A: a, B: b}
}

// TestClashOrder: by the lower one, then by the higher; foes of foes are none.
func TestClashOrder(t *testing.T) {
	x := plain(6)
	enemies(&x, 1, 5)
	enemies(&x, 0, 5)
	enemies(&x, 0, 2)
	enemies(&x, 1, 3)
	enemies(&x, 4, 5)
	wantClash(t, x, upTo(6), pair(0, 2), pair(0, 5), pair(1, 3), pair(1, 5), pair(4, 5))
	wantClash(t, x, lits(0, 1, 4, 5), pair(0, 5), pair(1, 5), pair(4, 5))
	wantClash(t, x, lits(0, 1, 2, 3, 4), pair(0, 2), pair(1, 3))
	wantClash(t, x, lits(0, 1, 4))
}

// TestClashNeedsBoth: +D of both; one that is refuted, or of which nothing is said, is none.
func TestClashNeedsBoth(t *testing.T) {
	x := plain(3, rule(1, 1), weak(api.Defeasible, 2))
	enemies(&x, 0, 1, 2)
	wantClash(t, x, lits(0))
	wantClash(t, x, lits(1))
	wantClash(t, x, lits(0, 1), pair(0, 1))
	wantClash(t, x, lits(0, 2), pair(0, 2))
	wantClash(t, x, lits(1, 2), pair(1, 2))
	// All have neither, or all -D.
	x = plain(2, rule(0, 1), rule(1, 0))
	enemies(&x, 0, 1)
	wantClash(t, x, nil)
	wantClash(t, x, lits(0), pair(0, 1))
	x = plain(2)
	enemies(&x, 0, 1)
	wantClash(t, x, nil)
}
