package guards_test

import (
	"math"
	"slices"
	"testing"

	"lexprior/api"
	"lexprior/money"
)

func TestOpposites(t *testing.T) {
	for _, pair := range [][2]api.Op{{api.OpLess, api.OpLeast}, {api.OpMost, api.OpMore}, {api.OpEqual, api.OpUnequal}} {
		for _, terms := range [][]api.Term{nil, {times(-2, atom(income, ann))}, manyTerms(16)} {
			for _, cents := range []api.Money{0, 7, -greatestConst} {
				one, other := guard(pair[0], cents, terms...), guard(pair[1], cents, terms...)
				wantOpposite(t, one, other, api.OK)
				wantOpposite(t, other, one, api.OK)
			}
		}
	}
	for _, g := range wrong() {
		wantOpposite(t, g, api.Guard{}, api.ErrGuard)
	}
}

func TestAtoms(t *testing.T) {
	a, b, c := atom(income, ann), atom(income, ben), atom(rate)
	wantAtoms(t, nil, nil)
	wantAtoms(t, []api.Guard{}, nil)
	wantAtoms(t, []api.Guard{guard(api.OpLess, 5), guard(api.OpMore, 6)}, nil)
	wantAtoms(t, []api.Guard{guard(api.OpLess, 5, times(1, a))}, []api.Atom{a})
	wantAtoms(t, []api.Guard{guard(api.OpLess, 5, times(1, b), times(2, c)), guard(api.OpLess, 5), guard(api.OpLess, 5, times(1, a), times(9, b), times(1, c))}, []api.Atom{b, c, a})
	wantAtoms(t, []api.Guard{guard(api.OpLess, 5, times(1, c)), guard(api.OpLess, 5, times(1, b)), guard(api.OpLess, 5, times(1, c)), guard(api.OpLess, 5, times(1, a)), guard(api.OpLess, 5, times(1, b))}, []api.Atom{c, b, a})
}

// TestAtomsOfNone: guards that may not be have atoms as others have, also such as may not be.
func TestAtomsOfNone(t *testing.T) {
	a, b := atom(income, ann), atom(income, ben)
	wantAtoms(t, []api.Guard{guard(0, math.MinInt64, times(0, b), times(math.MinInt64, a), times(1, b), times(2, a))}, []api.Atom{b, a})
	wantAtoms(t, []api.Guard{guard(9, 0, times(0, worth(a, 1)), times(1, a), times(1, worth(a, 1)), times(1, worth(a, -1)))}, []api.Atom{worth(a, 1), a, worth(a, -1)})
	wantAtoms(t, []api.Guard{guard(api.OpLess, 0, manyTerms(50)...), guard(api.OpLess, 0, manyTerms(60)...)}, modelAtoms(guard(0, 0, manyTerms(60)...)))
	all := orderedAtoms()
	slices.Reverse(all)
	var terms []api.Term
	for n, one := range slices.Concat(all, all, orderedAtoms()) {
		terms = append(terms, times(int64(n), one))
	}
	wantAtoms(t, []api.Guard{guard(-1, 1, terms...)}, all)
	wantAtoms(t, []api.Guard{guard(-1, 1, terms[len(all)-1:]...)}, append(all[len(all)-1:], all[:len(all)-1]...))
	wantAtoms(t, wrong(), modelAtoms(wrong()...))
}

// modelAtoms: each held against all ahead of it.
func modelAtoms(l ...api.Guard) []api.Atom {
	var all []api.Atom
	for _, g := range l {
		for _, term := range g.Terms {
			if !slices.ContainsFunc(all, func(a api.Atom) bool { return alikeAtoms(a, term.Atom) }) {
				all = append(all, term.Atom)
			}
		}
	}
	return all
}

// TestManyAtoms: in an order that is none of theirs, each twice.
func TestManyAtoms(t *testing.T) {
	const many = 50021
	var l []api.Guard
	var want []api.Atom
	for n := range 2 * many {
		one := atom(n*7919%many/100, n*7919%many)
		l = append(l, guard(api.OpLess, 0, times(1, one)))
		if n < many {
			want = append(want, one)
		}
	}
	wantAtoms(t, l, want)
}

func TestNumbers(t *testing.T) {
	for _, l := range [][]api.Number{
		nil, {}, {number(atom(0), 0)}, {number(atom(math.MaxInt, 0, math.MaxInt, 0, 0), 5)},
		{number(atom(0), money.Most), number(atom(0, 0), -money.Most), number(atom(0, 0, 0), 0), number(atom(0, 1), 0), number(atom(1), 0)},
	} {
		wantNumbers(t, l, api.OK)
	}
	var many []api.Number
	for n := range 5000 {
		many = append(many, number(atom(n/64, n%64), api.Money(n)))
	}
	wantNumbers(t, many, api.OK)
	many[4999].Atom = many[4998].Atom
	wantNumbers(t, many, api.ErrOrder)
}

// TestFaultsOfNumbers: each by itself, at each place.
func TestFaultsOfNumbers(t *testing.T) {
	right := func() []api.Number {
		return []api.Number{number(atom(0, 1), 1), number(atom(0, 2), 2), number(atom(3), 3)}
	}
	for place := range right() {
		for _, a := range wrongAtoms() {
			l := right()
			l[place].Atom = a
			wantNumbers(t, l, api.ErrGuard)
		}
		for _, value := range []api.Money{money.Most + 1, -money.Most - 1, math.MaxInt64, math.MinInt64} {
			l := right()
			l[place].Value = value
			wantNumbers(t, l, api.ErrOver)
		}
		if place > 0 {
			for _, a := range []api.Atom{right()[place-1].Atom, atom(0), atom(0, 0, 9)} {
				l := right()
				l[place].Atom = a
				wantNumbers(t, l, api.ErrOrder)
			}
		}
	}
	wantNumbers(t, []api.Number{number(atom(0), 1), number(atom(0), 1)}, api.ErrOrder)
	wantNumbers(t, []api.Number{number(atom(0, 0), 1), number(atom(0), 1)}, api.ErrOrder)
}

// TestTwoFaultsOfNumbers: of one number in the chapter's order; of two the first one's.
func TestTwoFaultsOfNumbers(t *testing.T) {
	first := number(atom(5), 1)
	bad, over, lower := number(atom(-1), 1), number(atom(6), money.Most+1), number(atom(4), 1)
	both, lowerOver := number(atom(-1), money.Most+1), number(atom(4), math.MinInt64)
	for _, each := range []struct {
		l     []api.Number
		errno api.Errno
	}{
		{[]api.Number{both}, api.ErrGuard},
		{[]api.Number{first, both}, api.ErrGuard},
		{[]api.Number{first, bad}, api.ErrGuard},
		{[]api.Number{first, lowerOver}, api.ErrOver},
		{[]api.Number{over, bad}, api.ErrOver},
		{[]api.Number{bad, over}, api.ErrGuard},
		{[]api.Number{over, lower}, api.ErrOver},
		{[]api.Number{bad, lower}, api.ErrGuard},
		{[]api.Number{first, lower, bad}, api.ErrOrder},
		{[]api.Number{first, lower, over}, api.ErrOrder},
		{[]api.Number{first, over, lower}, api.ErrOver},
		{[]api.Number{first, first, both}, api.ErrOrder},
	} {
		wantNumbers(t, each.l, each.errno)
	}
}
