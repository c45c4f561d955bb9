package literals_test

import (
	"slices"

	"lexprior/api"
)

// The model says the chapter's words in another way than the program: a literal is a row of numbers, and mates are found by asking all literals that there are.

func modelGuard(l api.Lit) bool {
	return l.Guard > 0 && alike(l, guard(l.Guard))
}

func oneIf(holds bool) int {
	if holds {
		return 1
	}
	return 0
}

// row: the order of literals is that of their rows, number by number; a 1 stands ahead of each of Args, a 0 behind them all, so that fewer are lower.
func row(l api.Lit) []int {
	numbers := []int{oneIf(modelGuard(l)), l.Atom.Pred}
	for _, arg := range l.Atom.Args {
		numbers = append(numbers, 1, arg)
	}
	return append(numbers, 0, int(l.Atom.Value), oneIf(l.Neg), l.Guard)
}

func modelCompare(a, b api.Lit) int {
	ofA, ofB := row(a), row(b)
	for n := range ofA {
		if ofA[n] < ofB[n] {
			return -1
		}
		if ofA[n] > ofB[n] {
			return 1
		}
	}
	return 0
}

// modelMay: members below 0 is as many as you like.
func modelMay(preds []api.PredText, members int, l api.Lit) bool {
	if modelGuard(l) {
		return true
	}
	if l.Guard != 0 || l.Atom.Pred < 0 || len(preds) <= l.Atom.Pred {
		return false
	}
	for _, arg := range l.Atom.Args {
		if arg < 0 || members >= 0 && members <= arg {
			return false
		}
	}
	p := preds[l.Atom.Pred]
	plain := p.Sort == api.SortPlain && l.Atom.Value == 0
	amount := p.Sort == api.SortAmount && slices.Index(p.Values, l.Atom.Value) >= 0
	return (plain || amount) && len(p.Kinds) == len(l.Atom.Args)
}

func modelConflict(class []int, sorts []api.Sort, a, b api.Lit) bool {
	if modelGuard(a) || modelGuard(b) {
		return false
	}
	inClass, sort := [2]int{-1, -1}, [2]api.Sort{api.SortPlain, api.SortPlain}
	for n, l := range []api.Lit{a, b} {
		for pred, number := range class {
			if pred == l.Atom.Pred {
				inClass[n] = number
			}
		}
		for pred, is := range sorts {
			if pred == l.Atom.Pred {
				sort[n] = is
			}
		}
	}
	pred, args, value := a.Atom.Pred == b.Atom.Pred, slices.Equal(a.Atom.Args, b.Atom.Args), a.Atom.Value == b.Atom.Value
	neither := !a.Neg && !b.Neg
	complements := pred && args && value && oneIf(a.Neg)+oneIf(b.Neg) == 1
	amounts := pred && args && neither && !value && sort[0] == api.SortAmount
	ofClass := !pred && args && neither && sort == [2]api.Sort{api.SortPlain, api.SortPlain} && inClass[0] == inClass[1] && inClass[0] != -1
	return complements || amounts || ofClass
}

// combinations: all lists of so many of the numbers.
func combinations(numbers []int, length int) [][]int {
	if length == 0 {
		return [][]int{nil}
	}
	var all [][]int
	for _, shorter := range combinations(numbers, length-1) {
		for _, n := range numbers {
			all = append(all, append(slices.Clone(shorter), n))
		}
	}
	return all
}

// everything: all literals that may be, with these members' numbers, rising; no guards'.
func everything(preds []api.PredText, numbers []int) []api.Lit {
	var all []api.Lit
	for pred, p := range preds {
		for _, args := range combinations(numbers, len(p.Kinds)) {
			for _, value := range append(slices.Clone(p.Values), 0) {
				l := worth(lit(pred, args...), value)
				if modelMay(preds, -1, l) {
					all = append(all, l, not(l))
				}
			}
		}
	}
	return sorted(all)
}

// sorted: rising, each once.
func sorted(l []api.Lit) []api.Lit {
	var all []api.Lit
	for _, one := range l {
		place, there := slices.BinarySearchFunc(all, one, modelCompare)
		if !there {
			all = slices.Insert(all, place, one)
		}
	}
	return all
}

func modelMates(preds []api.PredText, class []int, l api.Lit) ([]api.Lit, api.Errno) {
	if len(preds) != len(class) {
		return nil, api.ErrArg
	}
	if modelGuard(l) || !modelMay(preds, -1, l) {
		return nil, api.ErrLit
	}
	return slices.DeleteFunc(everything(preds, slices.Compact(slices.Sorted(slices.Values(l.Atom.Args)))), func(other api.Lit) bool {
		return !modelConflict(class, sortsOf(preds), l, other)
	}), api.OK
}

func modelClose(preds []api.PredText, class []int, l []api.Lit) ([]api.Lit, api.Errno) {
	if len(preds) != len(class) {
		return nil, api.ErrArg
	}
	var all []api.Lit
	for _, one := range l {
		all = append(all, one)
		if modelGuard(one) {
			continue
		}
		mates, errno := modelMates(preds, class, one)
		if errno != api.OK {
			return nil, errno
		}
		all = append(all, mates...)
	}
	all = sorted(all)
	if len(all) > 4096 {
		return nil, api.ErrLits
	}
	return all, api.OK
}

func modelFoes(class []int, sorts []api.Sort, l []api.Lit) ([][]int, api.Errno) {
	if !slices.EqualFunc(l, sorted(l), alike) {
		return nil, api.ErrOrder
	}
	foes := make([][]int, len(l))
	for a := range l {
		for b := range l {
			if modelConflict(class, sorts, l[a], l[b]) {
				foes[a] = append(foes[a], b)
			}
		}
	}
	return foes, api.OK
}

func modelFind(l []api.Lit, x api.Lit) (int, bool) {
	for n, one := range l {
		if alike(one, x) {
			return n, true
		}
	}
	return 0, false
}
