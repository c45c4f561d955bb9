package facts_test

import (
	"cmp"
	"math"
	"slices"
	"testing"

	"lexprior/api"
)

// wantSign: by these numbers a guard's sum is below 0, 0 or above it, whatever its Op: so says Holds, and so does a store, if it takes the numbers.
func wantSign(t testing.TB, g api.Guard, l []api.Number, sign int) {
	t.Helper()
	for _, op := range allOps() {
		g.Op = op
		wantHolds(t, g, l, takes(op, sign))
		s := newStore(t, groundOf(1, g))
		for _, n := range l {
			if _, _, errno := s.Put(n.Atom, n.Value); errno != api.OK {
				t.Fatalf("P18.2: Put(%v): %d", n, errno)
			}
		}
		wantFacts(t, s, lits(1, takes(op, sign))...)
	}
}

func TestHolds(t *testing.T) {
	a, b := atom(income, ann), atom(rent, ann)
	for v := api.Money(-4); v <= 4; v++ {
		wantSign(t, guard(0, v), nil, cmp.Compare(v, 0))
		wantSign(t, guard(0, 0, times(1, a)), []api.Number{number(a, v)}, cmp.Compare(v, 0))
		wantSign(t, guard(0, -2, times(1, a)), []api.Number{number(a, v)}, cmp.Compare(v, 2))
		wantSign(t, guard(0, 3, times(-3, a)), []api.Number{number(a, v)}, cmp.Compare(1, v))
		wantSign(t, guard(0, v, times(1, a), times(-2, b)), []api.Number{number(b, 3), number(a, 7)}, cmp.Compare(v, -1))
	}
}

// TestExactSums: at the greatest Coefs, Consts and amounts, where a word would wrap round and a float would lose a cent.
func TestExactSums(t *testing.T) {
	atoms := manyAtoms(16)
	for _, sign := range []int64{1, -1} {
		var terms []api.Term
		var all []api.Number
		for _, a := range atoms {
			terms = append(terms, times(sign*greatestCoef, a))
			all = append(all, number(a, most))
		}
		cents := api.Money(sign) * greatestConst
		wantSign(t, guard(0, cents, terms...), all, int(sign))
		wantSign(t, guard(0, -cents, terms...), all, int(sign))
		half := slices.Clone(terms)
		for n := range 8 {
			half[2*n].Coef = -half[2*n].Coef
		}
		for cents := api.Money(-1); cents <= 1; cents++ {
			wantSign(t, guard(0, cents, half...), all, int(cents))
		}
		less := slices.Clone(all)
		less[15].Value--
		wantSign(t, guard(0, api.Money(sign)*(greatestCoef-1), half...), less, int(-sign))
		wantSign(t, guard(0, api.Money(sign)*greatestCoef, half...), less, 0)
		wantSign(t, guard(0, api.Money(sign)*(greatestCoef+1), half...), less, int(sign))
	}
}

// TestBeyondAWord: sums of 2^63, 2^64 and beside them, of amounts that may be.
func TestBeyondAWord(t *testing.T) {
	var terms []api.Term
	var all []api.Number
	for _, a := range manyAtoms(8) {
		terms = append(terms, times(8192, a))
		all = append(all, number(a, 1<<49))
	}
	for many := 1; many <= 8; many++ {
		for cents := api.Money(-1); cents <= 1; cents++ {
			wantSign(t, guard(0, cents, terms[:many]...), all[:many], 1)
		}
		turned := slices.Clone(terms[:many])
		for n := range turned {
			turned[n].Coef = -turned[n].Coef
		}
		for cents := api.Money(-1); cents <= 1; cents++ {
			wantSign(t, guard(0, cents, turned...), all[:many], -1)
		}
	}
}

// TestHoldsOfNone: a guard that may not be does not hold, whatever its numbers are.
func TestHoldsOfNone(t *testing.T) {
	for _, g := range wrongGuards() {
		for _, v := range []api.Money{-1, 0, 1} {
			var l []api.Number
			for _, term := range g.Terms {
				l = append(l, number(term.Atom, v))
			}
			wantHolds(t, g, l, false)
		}
		wantHolds(t, g, nil, false)
	}
}

// TestHoldsWithoutNumber: one atom without a number is enough; others do not stand for it.
func TestHoldsWithoutNumber(t *testing.T) {
	a, b := atom(income, ann), atom(income, ben)
	others := []api.Number{number(atom(income), 1), number(atom(income, ann, ann), 1), number(atom(rent, ann), 1), number(worth(a, 1), 1), number(worth(b, -1), 1), number(atom(-1), 1)}
	for _, op := range allOps() {
		for _, v := range []api.Money{-1, 0, 1} {
			for _, l := range [][]api.Number{nil, {}, others} {
				wantHolds(t, guard(op, v, times(1, a)), l, false)
				wantHolds(t, guard(op, v, times(1, a), times(1, b)), append(slices.Clone(l), number(a, 0)), false)
				wantHolds(t, guard(op, v, times(1, a), times(1, b)), append(slices.Clone(l), number(b, 0)), false)
				wantHolds(t, guard(op, v, times(1, a), times(1, b)), append(slices.Clone(l), number(b, 0), number(a, 0)), takes(op, int(v)))
			}
		}
	}
}

// TestAtomTwice: of two numbers of one atom the first counts, wherever it stands.
func TestAtomTwice(t *testing.T) {
	a, b := atom(income, ann), atom(income, ben)
	for _, op := range allOps() {
		for _, v := range []api.Money{-1, 0, 1} {
			for _, later := range []api.Money{-1, 0, 1, math.MaxInt64} {
				wantHolds(t, guard(op, 0, times(1, a)), []api.Number{number(a, v), number(a, later)}, takes(op, int(v)))
				wantHolds(t, guard(op, 0, times(1, a), times(1, b)), []api.Number{number(b, 0), number(b, later), number(a, v), number(a, later), number(b, later)}, takes(op, int(v)))
				wantHolds(t, guard(op, 0, times(1, a)), []api.Number{number(worth(a, 1), later), number(a, v), number(a, later)}, takes(op, int(v)))
			}
		}
	}
}

// TestNumbersThatMayNotBe: greater ones than an amount may be are reckoned with as they are; of atoms that no guard has nothing is asked; the order is free.
func TestNumbersThatMayNotBe(t *testing.T) {
	a, b := atom(income, ann), atom(income, ben)
	for _, op := range allOps() {
		for _, v := range []api.Money{most + 1, math.MaxInt64, 1 << 62} {
			wantHolds(t, guard(op, 0, times(1, a)), []api.Number{number(a, v)}, takes(op, 1))
			wantHolds(t, guard(op, 0, times(1, a)), []api.Number{number(a, -v)}, takes(op, -1))
			wantHolds(t, guard(op, 0, times(4, a)), []api.Number{number(a, v)}, takes(op, 1))
			wantHolds(t, guard(op, 0, times(-greatestCoef, a)), []api.Number{number(a, v)}, takes(op, -1))
			wantHolds(t, guard(op, 0, times(3, a), times(-3, b)), []api.Number{number(b, v), number(a, v)}, takes(op, 0))
			wantHolds(t, guard(op, 1, times(3, a), times(-3, b)), []api.Number{number(b, v), number(a, v)}, takes(op, 1))
		}
		wantHolds(t, guard(op, 0, times(1, a)), []api.Number{number(a, math.MinInt64)}, takes(op, -1))
		wantHolds(t, guard(op, 0, times(-1, a)), []api.Number{number(a, math.MinInt64)}, takes(op, 1))
		wantHolds(t, guard(op, 0), []api.Number{number(atom(-1, -1, -2, -3, -4, -5), math.MinInt64), number(a, most+1)}, takes(op, 0))
	}
}
