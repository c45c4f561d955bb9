package facts_test

import (
	"math"
	"slices"
	"testing"

	"lexprior/api"
)

// TestAddRemove: each plain literal by itself, and all together.
func TestAddRemove(t *testing.T) {
	for _, lit := range []int{0, 2, 4} {
		s := newStore(t, house())
		wantFacts(t, s)
		wantRemove(t, s, lit, api.ErrFact)
		wantAdd(t, s, lit, api.OK)
		wantFacts(t, s, lit)
		wantAdd(t, s, lit, api.ErrFact)
		wantFacts(t, s, lit)
		wantRemove(t, s, lit, api.OK)
		wantFacts(t, s)
		wantRemove(t, s, lit, api.ErrFact)
		wantAdd(t, s, lit, api.OK)
		wantFacts(t, s, lit)
	}
	s := newStore(t, house())
	wantAdd(t, s, 4, api.OK)
	wantAdd(t, s, 0, api.OK)
	wantFacts(t, s, 0, 4)
	wantAdd(t, s, 2, api.OK) // a foe of 0: what is said is not held against itself
	wantFacts(t, s, 0, 2, 4)
	wantRemove(t, s, 0, api.OK)
	wantFacts(t, s, 2, 4)
	wantNumbers(t, s)
}

// TestNoPlainLiteral: those past either end, and guards' ones, whether they are facts or not.
func TestNoPlainLiteral(t *testing.T) {
	s := newStore(t, house())
	refused := []int{-1, -2, 6, 7, 4096, math.MinInt, math.MaxInt, 1, 3, 5}
	for _, lit := range refused {
		wantAdd(t, s, lit, api.ErrLit)
		wantRemove(t, s, lit, api.ErrLit)
	}
	wantFacts(t, s)
	wantPut(t, s, atom(income, ann), 500, []int{3}, nil, api.OK)
	wantPut(t, s, atom(rent, ann), 249, []int{1}, nil, api.OK)
	wantAdd(t, s, 0, api.OK)
	for _, lit := range refused {
		wantAdd(t, s, lit, api.ErrLit)
		wantRemove(t, s, lit, api.ErrLit)
	}
	wantFacts(t, s, 0, 1, 3)
	none := newStore(t, api.Ground{})
	wantAdd(t, none, 0, api.ErrLit)
	wantRemove(t, none, 0, api.ErrLit)
}

// TestHas: of any number.
func TestHas(t *testing.T) {
	s := newStore(t, house())
	for lit := range 6 {
		s.Add(lit)
	}
	for _, lit := range []int{math.MinInt, -1, 1, 3, 5, 6, math.MaxInt} {
		if s.Has(lit) {
			t.Errorf("P18.3: Has(%d)", lit)
		}
	}
	wantFacts(t, s, 0, 2, 4)
}

// TestAllLiterals: as many as there may be, added from the last on.
func TestAllLiterals(t *testing.T) {
	s := newStore(t, groundOf(4096))
	var all []int
	for lit := 4095; lit >= 0; lit-- {
		wantAdd(t, s, lit, api.OK)
		all = append(all, lit)
	}
	slices.Reverse(all)
	wantFacts(t, s, all...)
	wantAdd(t, s, 4096, api.ErrLit)
	for lit := range 4096 {
		if lit%2 == 0 {
			wantRemove(t, s, lit, api.OK)
		}
	}
	wantFacts(t, s, slices.DeleteFunc(all, func(lit int) bool { return lit%2 == 0 })...)
}
