package literals

import (
	"slices"

	"lexprior/api"
)

// isGuard: one that has a guard's number and something else, too, is no guard's.
func isGuard(l api.Lit) bool {
	return l.Guard >= 1 && !l.Neg && l.Atom.Pred == 0 && len(l.Atom.Args) == 0 && l.Atom.Value == 0
}

// isNumber: may a member have it, however many there are?
func isNumber(member int) bool {
	return member >= 0
}

// at: what stands in a list at that place; or something else, if it has no such place.
func at[T any](list []T, place int, otherwise T) T {
	if place < 0 || place >= len(list) {
		return otherwise
	}
	return list[place]
}

// mayBe asks of literals whether they may be, for these predicates and members.
func mayBe(preds []api.PredText, isMember func(member int) bool) func(l api.Lit) bool {
	isNone := func(member int) bool { return !isMember(member) }
	return func(l api.Lit) bool {
		if l.Guard != 0 {
			return isGuard(l)
		}
		pred := at(preds, l.Atom.Pred, api.PredText{})
		if len(l.Atom.Args) != len(pred.Kinds) || slices.ContainsFunc(l.Atom.Args, isNone) {
			return false
		}
		switch pred.Sort {
		case api.SortPlain:
			return l.Atom.Value == 0
		case api.SortAmount:
			return slices.Contains(pred.Values, l.Atom.Value)
		}
		return false
	}
}

// noClass is what stands for a class where a predicate is in none.
const noClass = -1

// classOf asks of predicates in which class of plain ones they are.
func classOf(class []int, sorts []api.Sort) func(pred int) int {
	return func(pred int) int {
		if at(sorts, pred, api.SortPlain) != api.SortPlain {
			return noClass
		}
		return at(class, pred, noClass)
	}
}

// inConflict asks of two literals whether they are in conflict.
func inConflict(class []int, sorts []api.Sort) func(a, b api.Lit) bool {
	inClass := classOf(class, sorts)
	return func(a, b api.Lit) bool {
		if isGuard(a) || isGuard(b) || !slices.Equal(a.Atom.Args, b.Atom.Args) {
			return false
		}
		samePred, sameValue := a.Atom.Pred == b.Atom.Pred, a.Atom.Value == b.Atom.Value
		switch {
		case a.Neg != b.Neg:
			return samePred && sameValue
		case a.Neg:
			return false
		case samePred:
			return !sameValue && at(sorts, a.Atom.Pred, api.SortPlain) == api.SortAmount
		}
		shared := inClass(a.Atom.Pred)
		return shared != noClass && shared == inClass(b.Atom.Pred)
	}
}

// matesOf answers of literals that may be, and are no guards', those that they are in conflict with, in no order; they share their Args with them.
func matesOf(preds []api.PredText, class []int) func(l api.Lit) []api.Lit {
	sorts := make([]api.Sort, len(preds))
	for n, pred := range preds {
		sorts[n] = pred.Sort
	}
	conflict := inConflict(class, sorts)
	return func(l api.Lit) []api.Lit {
		var mates []api.Lit
		meet := func(other api.Lit) {
			if conflict(l, other) {
				mates = append(mates, other)
			}
		}
		meet(turned(l))
		for _, value := range preds[l.Atom.Pred].Values {
			meet(plus(l.Atom.Pred, l.Atom.Args, value))
		}
		for n, pred := range preds {
			if pred.Sort == api.SortPlain && len(pred.Kinds) == len(l.Atom.Args) {
				meet(plus(n, l.Atom.Args, 0))
			}
		}
		return mates
	}
}

func plus(pred int, args []int, value api.Money) api.Lit {
	return api.Lit{Atom: api.Atom{Pred: pred, Args: args, Value: value}}
}

func turned(l api.Lit) api.Lit {
	l.Neg = !l.Neg
	return l
}
