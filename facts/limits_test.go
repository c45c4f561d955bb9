package facts_test

import (
	"slices"
	"testing"

	"lexprior/api"
)

// TestGreatestStore: as many guards' literals as there may be, each guard with as many terms, all of the same atoms.
func TestGreatestStore(t *testing.T) {
	atoms := manyAtoms(16)
	var all []api.Guard
	for n := range 4096 {
		one := guard(pick(newMaker(int64(n)), api.OpLess, api.OpLeast), api.Money(-n))
		for _, a := range atoms {
			one.Terms = append(one.Terms, times(1, a))
		}
		all = append(all, one)
	}
	s := newStore(t, groundOf(0, all...))
	for n, a := range atoms[1:] {
		wantPut(t, s, a, api.Money(n-7), nil, nil, api.OK) // together 0
	}
	was := []int{}
	for _, v := range []api.Money{-1, 0, 1, 2000, 4094, 4095, 4096, most, -most} {
		var want []int
		for n, one := range all {
			if (one.Op == api.OpLess) == (v < api.Money(n)) {
				want = append(want, n)
			}
		}
		wantPut(t, s, atoms[0], v, without(want, was), without(was, want), api.OK)
		wantFacts(t, s, want...)
		was = want
	}
	other := s.Copy()
	wantTake(t, other, atoms[15], nil, was, api.OK)
	wantFacts(t, other)
	wantFacts(t, s, was...)
}

// TestManyAtoms: each guard has its own, so that a change touches few; and many more guards than literals.
func TestManyAtoms(t *testing.T) {
	g := groundOf(0)
	for n := range 50000 {
		g.Guards = append(g.Guards, guard(api.OpMore, -5, times(1, atom(n)), times(-1, atom(n+1))))
	}
	for lit := range 4096 {
		g.Lits = append(g.Lits, api.Lit{Guard: 50000 - 12*lit})
	}
	g.Theory = plain(4096)
	s := newStore(t, g)
	var want []api.Number
	var facts []int
	for n := 50000; n >= 0; n-- {
		v := api.Money(n % 7)
		lit := (50000 - n - 1) / 12
		now := n < 50000 && (50000-n-1)%12 == 0 && lit < 4096 && n%7-(n+1)%7 > 5
		wantPut(t, s, atom(n), v, lits(lit, now), nil, api.OK)
		want = append(want, number(atom(n), v))
		if now {
			facts = append(facts, lit)
		}
	}
	slices.Reverse(want)
	wantNumbers(t, s, want...)
	wantFacts(t, s, facts...)
	if len(facts) < 400 {
		t.Errorf("only %d guards hold", len(facts))
	}
	for n := range 50001 {
		s.Take(atom(n))
	}
	wantNumbers(t, s)
	wantFacts(t, s)
}

// TestGreatestGuards: guards at all the bounds of what a guard may be, and the amounts at theirs.
func TestGreatestGuards(t *testing.T) {
	last := atom(1<<62, 1<<62, 1<<62, 1<<62, 1<<62)
	s := newStore(t, groundOf(1,
		guard(api.OpEqual, greatestConst, times(-greatestCoef, last)),
		guard(api.OpLess, -greatestConst, times(greatestCoef, last)),
		guard(api.OpMore, greatestConst, times(greatestCoef, last)),
	))
	wantPut(t, s, last, most/1000, []int{1, 3}, nil, api.OK) // 16000 times 10^12 is 16 times 10^15
	wantPut(t, s, last, most/1000-1, []int{2}, []int{1}, api.OK)
	wantPut(t, s, last, most/1000+1, nil, []int{2}, api.OK)
	wantPut(t, s, last, -most/1000, []int{2}, []int{3}, api.OK)
	wantPut(t, s, last, most, []int{3}, []int{2}, api.OK)
	wantPut(t, s, last, -most, []int{2}, []int{3}, api.OK)
	wantNumbers(t, s, number(last, -most))
}
