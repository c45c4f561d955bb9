package literals

import (
	"cmp"
	"slices"

	"lexprior/api"
)

// compareFlags: false is ahead.
func compareFlags(a, b bool) int {
	switch {
	case a == b:
		return 0
	case b:
		return -1
	}
	return 1
}

// rises: one literal twice does not.
func rises(l []api.Lit) bool {
	for n := 1; n < len(l); n++ {
		if Compare(l[n-1], l[n]) >= 0 {
			return false
		}
	}
	return true
}

// onceEach sorts a list, in its own memory.
func onceEach(l []api.Lit) []api.Lit {
	slices.SortFunc(l, Compare)
	return slices.CompactFunc(l, func(a, b api.Lit) bool { return Compare(a, b) == 0 })
}

// apart: with Args of its own.
func apart(l api.Lit) api.Lit {
	l.Atom.Args = slices.Clone(l.Atom.Args)
	return l
}

// allApart: in the memory of the list.
func allApart(l []api.Lit) []api.Lit {
	for n := range l {
		l[n] = apart(l[n])
	}
	return l
}

// closed: literals and their mates, and whether they are at most MaxLits.
func closed(l []api.Lit, mates func(l api.Lit) []api.Lit) ([]api.Lit, bool) {
	own := onceEach(slices.Clone(l))
	all := slices.Clone(own)
	for _, one := range own {
		if isGuard(one) {
			continue
		}
		all = append(all, mates(one)...)
		// Mates of many literals are often the same: the list does not grow by these, nor far beyond what may be.
		if len(all) > 2*api.MaxLits {
			all = onceEach(all)
			if len(all) > api.MaxLits {
				return nil, false
			}
		}
	}
	all = onceEach(all)
	return all, len(all) <= api.MaxLits
}

// family is what all literals have in common that can be in conflict with each other: a class, or else a predicate; and Args.
type family struct {
	class int
	pred  int
	args  []int
}

func compareFamilies(a, b family) int {
	return cmp.Or(cmp.Compare(a.class, b.class), cmp.Compare(a.pred, b.pred), slices.Compare(a.args, b.args))
}

// families: the places of literals that are no guards', by families, so that not each must be held against each; in a family they rise.
func families(l []api.Lit, inClass func(pred int) int) [][]int {
	var places []int
	of := make([]family, len(l))
	for place, one := range l {
		of[place] = family{class: inClass(one.Atom.Pred), args: one.Atom.Args}
		if of[place].class == noClass {
			of[place].pred = one.Atom.Pred
		}
		if !isGuard(one) {
			places = append(places, place)
		}
	}
	slices.SortFunc(places, func(a, b int) int {
		return cmp.Or(compareFamilies(of[a], of[b]), cmp.Compare(a, b))
	})
	var all [][]int
	for n, place := range places {
		if n == 0 || compareFamilies(of[places[n-1]], of[place]) != 0 {
			all = append(all, nil)
		}
		last := len(all) - 1
		all[last] = append(all[last], place)
	}
	return all
}
