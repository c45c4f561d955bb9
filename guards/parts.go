package guards

import (
	"cmp"
	"slices"

	"lexprior/api"
	"lexprior/money"
)

// What both sides of a text together can come to.
const (
	mostTerms = 2 * api.MaxTerms
	mostCoef  = mostTerms * api.MaxCoef
	mostConst = mostTerms * money.Most
)

// within: from -most to most.
func within(number int64, most int64) bool {
	return -most <= number && number <= most
}

func mayTerms(terms []api.Term) bool {
	if len(terms) > mostTerms {
		return false
	}
	for n, term := range terms {
		if term.Coef == 0 || !within(term.Coef, mostCoef) || !mayAtom(term.Atom) {
			return false
		}
		if n > 0 && CompareAtoms(terms[n-1].Atom, term.Atom) >= 0 {
			return false
		}
	}
	return true
}

func mayAtom(a api.Atom) bool {
	below := func(member int) bool { return member < 0 }
	return a.Pred >= 0 && len(a.Args) <= api.MaxArity && !slices.ContainsFunc(a.Args, below) && a.Value == 0
}

func compareTerms(a, b api.Term) int {
	return cmp.Or(CompareAtoms(a.Atom, b.Atom), cmp.Compare(a.Coef, b.Coef))
}

// apart: with Args of its own.
func apart(a api.Atom) api.Atom {
	a.Args = slices.Clone(a.Args)
	return a
}

// firstPlaces: where each atom of a list first stands, rising. They are found by sorting, since there may be many.
func firstPlaces(atoms []api.Atom) []int {
	places := make([]int, len(atoms))
	for n := range places {
		places[n] = n
	}
	compare := func(a, b int) int { return CompareAtoms(atoms[a], atoms[b]) }
	slices.SortStableFunc(places, compare)
	places = slices.CompactFunc(places, func(a, b int) bool { return compare(a, b) == 0 })
	slices.Sort(places)
	return places
}
