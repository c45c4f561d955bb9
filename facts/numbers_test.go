package facts_test

import (
	"math"
	"testing"

	"lexprior/api"
)

// TestNoAtom: one that stands in no guard has no number, whatever it looks like.
func TestNoAtom(t *testing.T) {
	s := newStore(t, house())
	strangers := []api.Atom{
		{}, atom(income), atom(income, ben), atom(income, ann, ann), atom(income, ann, ann, ann, ann), atom(income, ann, ann, ann, ann, ann), atom(income, -1),
		worth(atom(income, ann), 1), worth(atom(income, ann), -1), worth(atom(income, ann), math.MaxInt64), worth(atom(rate), math.MinInt64),
		atom(rate, ann), atom(rate, ann, ann), atom(rent), atom(rent, cem), atom(shared, ann), atom(shared, ben, ann), atom(shared, ann, ben, ann),
		atom(9, ann), atom(8), worth(atom(8), 500), atom(-1), atom(math.MinInt), atom(math.MaxInt, math.MaxInt), atom(income, math.MinInt), atom(income, make([]int, 1000)...),
	}
	for range 2 {
		for _, a := range strangers {
			for _, v := range []api.Money{0, 1, most, most + 1, math.MinInt64} {
				wantPut(t, s, a, v, nil, nil, api.ErrGuard)
			}
			wantTake(t, s, a, nil, nil, api.ErrGuard)
			wantValue(t, s, a, 0, false)
		}
		for _, a := range houseAtoms() {
			s.Put(a, 7)
		}
	}
	wantNumbers(t, s, number(atom(income, ann), 7), number(atom(rate), 7), number(atom(rent, ann), 7), number(atom(shared, ann, ben), 7))
}

// TestArgumentsOfZeros: atoms that differ in nothing but how many arguments they have, all of them 0.
func TestArgumentsOfZeros(t *testing.T) {
	zeros := []api.Atom{atom(0), atom(0, 0), atom(0, 0, 0), atom(0, 0, 0, 0), atom(0, 0, 0, 0, 0)}
	for n, a := range zeros {
		s := newStore(t, groundOf(1, guard(api.OpEqual, -5, times(1, a))))
		for other, b := range zeros {
			if n != other {
				wantPut(t, s, b, 5, nil, nil, api.ErrGuard)
			}
		}
		wantFacts(t, s)
		wantPut(t, s, a, 5, []int{1}, nil, api.OK)
		for other, b := range zeros {
			if n != other {
				wantTake(t, s, b, nil, nil, api.ErrGuard)
				wantValue(t, s, b, 0, false)
			}
		}
		wantNumbers(t, s, number(a, 5))
	}
}

// TestAmounts: those that may be, and those beside them.
func TestAmounts(t *testing.T) {
	a := atom(income, ann)
	s := newStore(t, house())
	for _, v := range []api.Money{most + 1, -most - 1, math.MaxInt64, math.MinInt64} {
		wantPut(t, s, a, v, nil, nil, api.ErrOver)
		wantValue(t, s, a, 0, false)
	}
	wantPut(t, s, a, -most, []int{3}, nil, api.OK)
	wantPut(t, s, a, most+1, nil, nil, api.ErrOver)
	wantNumbers(t, s, number(a, -most))
	wantFacts(t, s, 3)
	wantPut(t, s, a, most, nil, []int{3}, api.OK)
	wantPut(t, s, a, -most-1, nil, nil, api.ErrOver)
	wantNumbers(t, s, number(a, most))
	wantFacts(t, s)
}

// TestTakeNothing: an atom that has no number, never had one, or has none any more.
func TestTakeNothing(t *testing.T) {
	s := newStore(t, house())
	for _, a := range houseAtoms() {
		wantTake(t, s, a, nil, nil, api.ErrFact)
	}
	wantPut(t, s, atom(rate), 0, nil, nil, api.OK)
	wantTake(t, s, atom(income, ann), nil, nil, api.ErrFact)
	wantNumbers(t, s, number(atom(rate), 0))
	wantTake(t, s, atom(rate), nil, nil, api.OK)
	wantTake(t, s, atom(rate), nil, nil, api.ErrFact)
	wantValue(t, s, atom(rate), 0, false)
	wantNumbers(t, s)
}

// TestEveryOp: as a number passes the bound, from below it and from above.
func TestEveryOp(t *testing.T) {
	a := atom(income, ann)
	for _, op := range allOps() {
		for _, coef := range []int64{1, -1, 3, -7} {
			s := newStore(t, groundOf(1, guard(op, api.Money(-100*coef), times(coef, a))))
			was := false
			for _, v := range []api.Money{99, 100, 101, 101, 100, 100, 99, 99, 101, 99, -most, most, 100} {
				sign := 0
				if v != 100 {
					sign = int((v - 100) / max(v-100, 100-v))
				}
				if coef < 0 {
					sign = -sign
				}
				now := takes(op, sign)
				wantPut(t, s, a, v, lits(1, now && !was), lits(1, was && !now), api.OK)
				was = now
			}
			wantTake(t, s, a, nil, lits(1, was), api.OK)
			wantFacts(t, s)
		}
	}
}

// lits: the literal alone, or none.
func lits(lit int, there bool) []int {
	if there {
		return []int{lit}
	}
	return nil
}

// TestSomeNumbers: a guard of several atoms waits for the last one, and goes with any.
func TestSomeNumbers(t *testing.T) {
	atoms := []api.Atom{atom(income, ann), atom(income, ben), atom(rent, ann)}
	g := groundOf(2, guard(api.OpLeast, 0, times(1, atoms[0]), times(1, atoms[1]), times(-1, atoms[2])))
	orders := [][]int{{0, 1, 2}, {0, 2, 1}, {1, 0, 2}, {1, 2, 0}, {2, 0, 1}, {2, 1, 0}}
	for _, order := range orders {
		s := newStore(t, g)
		wantPut(t, s, atoms[order[0]], 0, nil, nil, api.OK)
		wantPut(t, s, atoms[order[1]], 0, nil, nil, api.OK)
		wantFacts(t, s)
		wantPut(t, s, atoms[order[2]], 0, []int{2}, nil, api.OK)
		wantFacts(t, s, 2)
		wantNumbers(t, s, number(atoms[0], 0), number(atoms[1], 0), number(atoms[2], 0))
		for _, out := range order {
			wantTake(t, s, atoms[out], nil, []int{2}, api.OK)
			wantFacts(t, s)
			wantPut(t, s, atoms[out], 0, []int{2}, nil, api.OK)
		}
		wantTake(t, s, atoms[order[2]], nil, []int{2}, api.OK)
		wantTake(t, s, atoms[order[0]], nil, nil, api.OK)
		wantNumbers(t, s, number(atoms[order[1]], 0))
		wantPut(t, s, atoms[order[2]], 0, nil, nil, api.OK)
		wantFacts(t, s)
	}
}

// TestOneAtomInManyGuards: each is told, and just those that changed, some coming as others go.
func TestOneAtomInManyGuards(t *testing.T) {
	a, b := atom(income, ann), atom(rent, ann)
	s := newStore(t, groundOf(1,
		guard(api.OpLess, -100, times(1, a)),
		guard(api.OpLeast, -100, times(1, a)),
		guard(api.OpMost, -100, times(1, b)),
		guard(api.OpEqual, -100, times(1, a)),
		guard(api.OpLess, 0, times(1, a), times(-1, b)),
		guard(api.OpUnequal, 0),
		guard(api.OpMore, 0, times(-1, a), times(1, b)),
		guard(api.OpLeast, 0, times(1, a)),
	))
	wantPut(t, s, a, 50, []int{1, 8}, nil, api.OK)
	wantPut(t, s, a, 50, nil, nil, api.OK)
	wantPut(t, s, a, 100, []int{2, 4}, []int{1}, api.OK)
	wantPut(t, s, b, 100, []int{3}, nil, api.OK)
	wantPut(t, s, b, 101, []int{5, 7}, []int{3}, api.OK)
	wantFacts(t, s, 2, 4, 5, 7, 8)
	wantPut(t, s, a, 101, nil, []int{4, 5, 7}, api.OK)
	wantPut(t, s, a, -1, []int{1, 5, 7}, []int{2, 8}, api.OK)
	wantTake(t, s, b, nil, []int{5, 7}, api.OK)
	wantFacts(t, s, 1)
	wantTake(t, s, a, nil, []int{1}, api.OK)
	wantFacts(t, s)
}

// TestLiteralsOutOfOrder: what came and went rises by the literals' numbers, not by those of guards; guards without a literal tell nothing.
func TestLiteralsOutOfOrder(t *testing.T) {
	a := atom(income, ann)
	s := newStore(t, api.Ground{
		Lits: []api.Lit{{Guard: 5}, {}, {Guard: 4}, {Guard: 2}, {Guard: 1}},
		Guards: []api.Guard{
			guard(api.OpLess, 0, times(1, a)), guard(api.OpMore, 0, times(1, a)), guard(api.OpMore, 0, times(1, a)),
			guard(api.OpLess, 0, times(2, a)), guard(api.OpMore, 0, times(2, a)),
		},
		Theory: plain(5),
	})
	wantPut(t, s, a, 1, []int{0, 3}, nil, api.OK)
	wantPut(t, s, a, -1, []int{2, 4}, []int{0, 3}, api.OK)
	wantAdd(t, s, 1, api.OK)
	wantFacts(t, s, 1, 2, 4)
	wantPut(t, s, a, 1, []int{0, 3}, []int{2, 4}, api.OK)
	wantFacts(t, s, 0, 1, 3)
	wantTake(t, s, a, nil, []int{0, 3}, api.OK)
	wantFacts(t, s, 1)
}

// TestGuardsWithoutLiterals: their atoms have numbers, too.
func TestGuardsWithoutLiterals(t *testing.T) {
	a, b := atom(income, ann), atom(rent, ann)
	s := newStore(t, api.Ground{Guards: []api.Guard{guard(api.OpMost, 0, times(1, b)), guard(api.OpMost, 0, times(1, a))}})
	wantPut(t, s, a, -5, nil, nil, api.OK)
	wantPut(t, s, b, 6, nil, nil, api.OK)
	wantFacts(t, s)
	wantNumbers(t, s, number(b, 6), number(a, -5))
	wantNumbers(t, s.Copy(), number(b, 6), number(a, -5))
	wantTake(t, s, b, nil, nil, api.OK)
	wantNumbers(t, s, number(a, -5))
}

// TestOrderOfNumbers: by the atoms' first places in the guards, whatever came first, and whether that guard has a literal or not.
func TestOrderOfNumbers(t *testing.T) {
	atoms := houseAtoms()
	s := newStore(t, house())
	for _, n := range []int{3, 1, 2, 0} {
		s.Put(atoms[n], api.Money(n))
	}
	wantNumbers(t, s, number(atoms[0], 0), number(atoms[1], 1), number(atoms[2], 2), number(atoms[3], 3))
	s.Take(atoms[1])
	wantNumbers(t, s, number(atoms[0], 0), number(atoms[2], 2), number(atoms[3], 3))
	s.Take(atoms[0])
	s.Put(atoms[1], 9)
	wantNumbers(t, s, number(atoms[1], 9), number(atoms[2], 2), number(atoms[3], 3))
	s.Put(atoms[0], -9)
	wantNumbers(t, s, number(atoms[0], -9), number(atoms[1], 9), number(atoms[2], 2), number(atoms[3], 3))
}

// TestNumbersAndLiterals: neither is touched by the other.
func TestNumbersAndLiterals(t *testing.T) {
	s := newStore(t, house())
	wantAdd(t, s, 0, api.OK)
	wantPut(t, s, atom(income, ann), 9000, []int{3}, nil, api.OK)
	wantAdd(t, s, 4, api.OK)
	wantPut(t, s, atom(rent, ann), 100, []int{1}, nil, api.OK)
	wantPut(t, s, atom(shared, ann, ben), -95, nil, nil, api.OK)
	wantPut(t, s, atom(shared, ann, ben), -94, []int{5}, nil, api.OK)
	wantFacts(t, s, 0, 1, 3, 4, 5)
	wantRemove(t, s, 0, api.OK)
	wantNumbers(t, s, number(atom(income, ann), 9000), number(atom(rent, ann), 100), number(atom(shared, ann, ben), -94))
	wantTake(t, s, atom(rent, ann), nil, []int{1, 5}, api.OK)
	wantFacts(t, s, 3, 4)
}
