package guards_test

import (
	"cmp"
	"math"
	"slices"
	"testing"

	"lexprior/api"
)

// orderedAtoms: also such as no guard may have, each above those ahead of it.
func orderedAtoms() []api.Atom {
	return []api.Atom{
		atom(math.MinInt, 7),
		atom(-1),
		worth(atom(0), math.MinInt64),
		worth(atom(0), -1),
		atom(0),
		worth(atom(0), 1),
		atom(0, math.MinInt),
		atom(0, -1),
		worth(atom(0, 0), -1),
		atom(0, 0),
		worth(atom(0, 0), 9),
		worth(atom(0, 0), 10),
		atom(0, 0, -1),
		atom(0, 0, 0),
		atom(0, 0, 0, 0),
		atom(0, 0, 0, 0, 0),
		atom(0, 0, 0, 0, 0, 0),
		atom(0, 0, 1),
		atom(0, 1),
		worth(atom(0, 1), math.MaxInt64),
		atom(0, 1, 0),
		atom(0, 9),
		atom(0, 10),
		atom(0, math.MaxInt),
		atom(1),
		atom(1, 0),
		atom(9, 5),
		atom(10),
		atom(math.MaxInt),
		worth(atom(math.MaxInt, math.MaxInt), math.MaxInt64),
	}
}

func TestOrderOfAtoms(t *testing.T) {
	all := orderedAtoms()
	for i, a := range all {
		for j, b := range all {
			wantCompareAtoms(t, a, b, cmp.Compare(i, j))
		}
	}
}

// ordered: guards, also such as may not be, each above those ahead of it.
func ordered() []api.Guard {
	first, second := atom(0, 0), atom(0, 1)
	return []api.Guard{
		guard(api.OpLess, math.MinInt64),
		guard(math.MaxInt, -1),
		guard(math.MinInt, 0),
		guard(0, 0),
		guard(api.OpLess, 0),
		guard(api.OpMost, 0),
		guard(api.OpEqual, 0),
		guard(api.OpUnequal, 0),
		guard(api.OpLeast, 0),
		guard(api.OpMore, 0),
		guard(7, 0),
		guard(api.OpLess, 9),
		guard(api.OpLess, 10),
		guard(api.OpLess, math.MaxInt64),
		guard(api.OpMore, 900, times(5, atom(-1))),
		guard(api.OpMore, 900, times(math.MinInt64, first)),
		guard(api.OpMore, 900, times(-2, first), times(9, second)),
		guard(api.OpMore, 900, times(-1, first)),
		guard(api.OpLess, 0, times(0, first)),
		guard(api.OpMore, -5, times(1, first)),
		guard(api.OpLess, 5, times(1, first)),
		guard(api.OpMost, 5, times(1, first)),
		guard(api.OpLess, 0, times(1, first), times(-7, first)),
		guard(api.OpLess, 0, times(1, first), times(1, second)),
		guard(api.OpLess, 0, times(1, first), times(1, second), times(-1, atom(0))),
		guard(api.OpLess, -9, times(1, first), times(2, second)),
		guard(api.OpLess, -9, times(1, first), times(1, atom(1))),
		guard(api.OpLess, -9, times(9, first)),
		guard(api.OpLess, -9, times(10, first)),
		guard(api.OpLess, -9, times(-10, worth(first, 1))),
		guard(api.OpLess, -9, times(-10, second)),
		guard(api.OpLess, -9, times(-11, atom(1))),
		guard(api.OpLess, -9, times(math.MaxInt64, atom(1))),
	}
}

func TestOrder(t *testing.T) {
	all := ordered()
	for i, a := range all {
		for j, b := range all {
			wantCompare(t, a, b, cmp.Compare(i, j))
		}
	}
}

func TestGuardsThatMayBe(t *testing.T) {
	for _, op := range allOps() {
		wantCheck(t, guard(op, 0), api.OK)
		wantCheck(t, guard(op, 5, times(-3, atom(2, 0))), api.OK)
	}
	for _, terms := range [][]api.Term{
		nil, {}, manyTerms(1), manyTerms(8), manyTerms(9), manyTerms(15), manyTerms(16),
		{times(1, atom(0)), times(1, atom(0, 0)), times(1, atom(0, 0, 0)), times(1, atom(0, 1)), times(1, atom(1))},
		{times(1, atom(3)), times(-1, atom(1000000))},
		{times(1, atom(math.MaxInt, math.MaxInt, 0, math.MaxInt, 0))},
		{times(1, atom(0, 0, 0, 0, 0)), times(1, atom(0, 0, 0, 0, 1))},
	} {
		wantCheck(t, guard(api.OpLess, 0, terms...), api.OK)
	}
	for _, coef := range []int64{1, -1, 1000, 1001, 8001, greatestCoef - 1, greatestCoef} {
		wantCheck(t, guard(api.OpMore, 0, times(coef, atom(0))), api.OK)
		wantCheck(t, guard(api.OpMore, 0, times(-coef, atom(0)), times(coef, atom(1))), api.OK)
	}
	for _, cents := range []api.Money{0, 1, 1_000_000_000_000_001, greatestConst - 1, greatestConst} {
		wantCheck(t, guard(api.OpEqual, cents), api.OK)
		wantCheck(t, guard(api.OpEqual, -cents), api.OK)
	}
}

// wrongAtoms: such as no guard may have.
func wrongAtoms() []api.Atom {
	return []api.Atom{
		atom(-1), atom(math.MinInt, 0), atom(0, -1), atom(0, math.MinInt), atom(0, 0, -1), atom(0, 0, 0, 0, -1),
		atom(0, 0, 0, 0, 0, 0), atom(0, 1, 2, 3, 4, 5, 6), worth(atom(0), 1), worth(atom(0), -1), worth(atom(0, 1), math.MinInt64), worth(atom(5), math.MaxInt64),
	}
}

// wrongTerms: such as may not stand in a guard together.
func wrongTerms() [][]api.Term {
	last := times(1, atom(9))
	all := [][]api.Term{
		manyTerms(17), manyTerms(18), manyTerms(100),
		{times(1, atom(0)), times(1, atom(0))}, {times(1, atom(0)), times(2, atom(0))}, {times(2, atom(0)), times(1, atom(0))}, {times(1, atom(0, 3)), times(-1, atom(0, 3))},
		{times(1, atom(1)), times(1, atom(0))}, {times(1, atom(0, 1)), times(1, atom(0, 0))}, {times(1, atom(0, 0)), times(1, atom(0))}, {times(1, atom(0, 0, 1)), times(1, atom(0, 0, 0))}, {times(1, atom(0, 1)), times(1, atom(0, 0, 1))},
		{times(1, atom(0)), times(1, atom(1)), times(1, atom(1))}, {times(1, atom(0)), times(1, atom(2)), times(1, atom(1))}, {times(1, atom(1)), times(1, atom(2)), times(1, atom(0))},
		{times(1, atom(0)), times(1, worth(atom(0), 1))}, {times(1, worth(atom(0), -1)), times(1, atom(0))},
	}
	for _, coef := range []int64{0, greatestCoef + 1, -greatestCoef - 1, math.MaxInt64, math.MinInt64} {
		all = append(all, []api.Term{times(coef, atom(0))}, []api.Term{times(coef, atom(0)), last}, []api.Term{times(1, atom(0)), times(coef, atom(1)), last}, []api.Term{times(1, atom(0)), times(coef, atom(1))})
	}
	for _, a := range wrongAtoms() {
		all = append(all, []api.Term{times(1, a)}, []api.Term{times(1, a), last}, append(manyTerms(1), times(1, a)))
	}
	return all
}

// wrong: guards that may not be.
func wrong() []api.Guard {
	var all []api.Guard
	for _, op := range []api.Op{0, -1, 7, 8, math.MinInt, math.MaxInt} {
		all = append(all, guard(op, 0), guard(op, 5, times(1, atom(0))))
	}
	for _, terms := range wrongTerms() {
		all = append(all, guard(api.OpLess, 0, terms...))
	}
	for _, cents := range []api.Money{greatestConst + 1, -greatestConst - 1, math.MaxInt64, math.MinInt64, math.MinInt64 + 1} {
		all = append(all, guard(api.OpMore, cents), guard(api.OpMore, cents, manyTerms(16)...))
	}
	return append(all, api.Guard{})
}

func TestGuardsThatMayNotBe(t *testing.T) {
	for _, g := range wrong() {
		wantCheck(t, g, api.ErrGuard)
	}
}

// TestEachPlaceIsAsked: a wrong term is found wherever it stands among as many as there may be.
func TestEachPlaceIsAsked(t *testing.T) {
	for place := range 16 {
		terms := manyTerms(16)
		terms[place].Coef = 0
		wantCheck(t, guard(api.OpLess, 0, terms...), api.ErrGuard)
		terms = manyTerms(16)
		terms[place].Atom.Args = []int{place % 3, -1}
		wantCheck(t, guard(api.OpLess, 0, terms...), api.ErrGuard)
		if place > 0 {
			terms = manyTerms(16)
			terms[place] = terms[place-1]
			wantCheck(t, guard(api.OpLess, 0, terms...), api.ErrGuard)
			terms = manyTerms(16)
			slices.Reverse(terms[place-1 : place+1])
			wantCheck(t, guard(api.OpLess, 0, terms...), api.ErrGuard)
		}
	}
}
