package literals_test

import (
	"math"
	"testing"

	"lexprior/api"
)

func TestConflicts(t *testing.T) {
	_, class, sorts := house()
	for _, pair := range [][2]api.Lit{
		{lit(old, 0), not(lit(old, 0))},
		{lit(rains), not(lit(rains))},
		{lit(lives, 0, 1), not(lit(lives, 0, 1))},
		{worth(lit(help, 0), 10), not(worth(lit(help, 0), 10))},
		{worth(lit(help, 0), 10), worth(lit(help, 0), 20)},
		{worth(lit(grant), 0), worth(lit(grant), -3)},
		{lit(aid, 2), worth(lit(aid, 2), 30)},
		{lit(single, 1), not(lit(single, 1))},
		{lit(single, 1), lit(married, 1)},
		{lit(single, 1), lit(divorced, 1)},
		{lit(dry), lit(wet)},
		// Such as may not be.
		{worth(lit(help, 0), 15), worth(lit(help, 0), 16)},
		{worth(lit(old, 0), 15), not(worth(lit(old, 0), 15))},
		{lit(income, 0), not(lit(income, 0))},
		{lit(-1), not(lit(-1))},
		{lit(math.MaxInt, -7), not(lit(math.MaxInt, -7))},
		{lit(single), lit(settled)},
		{lit(single, 0, 1), lit(settled, 0, 1)},
		{worth(lit(single, 0), 5), worth(lit(married, 0), 6)},
		{guarded(lit(old, 0), 1), not(guarded(lit(old, 0), 1))},
		{guarded(lit(old, 0), 1), not(lit(old, 0))},
		{guard(-1), not(guard(-1))},
	} {
		wantConflict(t, class, sorts, pair[0], pair[1], true)
	}
}

func TestNoConflicts(t *testing.T) {
	_, class, sorts := house()
	for _, pair := range [][2]api.Lit{
		{lit(old, 0), lit(single, 0)},
		{lit(old, 0), not(lit(old, 1))},
		{lit(old, 0), not(lit(old))},
		{lit(old, 0), not(lit(old, 0, 0))},
		{lit(old, 0), not(lit(single, 0))},
		{lit(old, 0), not(worth(lit(old, 0), 1))},
		{lit(old, 0), worth(lit(old, 0), 1)},
		{lit(lives, 0, 1), not(lit(lives, 1, 0))},
		{worth(lit(help, 0), 10), not(worth(lit(help, 0), 20))},
		{not(worth(lit(help, 0), 10)), not(worth(lit(help, 0), 20))},
		{worth(lit(help, 0), 10), worth(lit(help, 1), 20)},
		{worth(lit(help, 0), 10), worth(lit(aid, 0), 30)},
		{worth(lit(grant), 10), worth(lit(grant, 0), 20)},
		{worth(lit(income, 0), 10), worth(lit(income, 0), 20)},
		{lit(single, 0), not(lit(married, 0))},
		{not(lit(single, 0)), not(lit(married, 0))},
		{lit(single, 0), lit(married, 1)},
		{lit(single, 0), lit(settled, 0, 1)},
		{lit(single, 0), lit(aid, 0)},
		{lit(single, 0), lit(age, 0)},
		{lit(aid, 0), lit(age, 0)},
		{lit(single, 0), lit(alone, 0)},
		{lit(alone, 0), lit(old, 0)},
		{lit(old, 0), lit(lives, 0)},
		{lit(dry), lit(single)},
		{guard(1), guard(2)},
		{guard(1), not(guard(1))},
		{guard(1), lit(0)},
		{guard(1), not(lit(0))},
		{guard(1), worth(lit(0), 5)},
		{guarded(lit(old, 0), 1), guarded(lit(old, 0), 2)},
	} {
		wantConflict(t, class, sorts, pair[0], pair[1], false)
	}
	for _, l := range ordered() {
		wantConflict(t, class, sorts, l, l, false)
	}
}

// TestPredsWithoutPlaces: in class they are in none, in sorts they are plain.
func TestPredsWithoutPlaces(t *testing.T) {
	_, class, sorts := house()
	for _, pred := range []int{single, help, income, last, last + 1, -1, math.MinInt, math.MaxInt} {
		l := lit(pred, 0)
		for _, n := range []int{0, 1, 2, len(class)} {
			for _, k := range []int{0, 1, 2, len(sorts)} {
				wantConflict(t, class[:n], sorts[:k], l, not(l), true)
				wantConflict(t, class[:n], sorts[:k], worth(l, 10), worth(l, 20), pred == help && k > help)
			}
		}
	}
	for n := range len(class) + 1 {
		both := n > married
		wantConflict(t, class[:n], sorts, lit(single, 0), lit(married, 0), both)
		wantConflict(t, class[:n], nil, lit(single, 0), lit(married, 0), both)
		wantConflict(t, class[:n], sorts[:married], lit(single, 0), lit(married, 0), both)
	}
	for k := range len(sorts) + 1 {
		wantConflict(t, class, sorts[:k], lit(single, 0), lit(married, 0), true)
		wantConflict(t, class, sorts[:k], lit(single, 0), lit(aid, 0), k <= aid)
		wantConflict(t, class, sorts[:k], lit(aid, 0), lit(age, 0), k <= aid)
		wantConflict(t, class, sorts[:k], lit(aid, 0), worth(lit(aid, 0), 30), k > aid)
	}
	none := []int{-1, -1, -1}
	wantConflict(t, none, sorts, lit(0), lit(1), false)
	wantConflict(t, none, nil, lit(0), lit(2), false)
	wantConflict(t, []int{5, 5, 3}, nil, lit(0), lit(1), true)
	wantConflict(t, []int{5, 5, 3}, nil, lit(0), lit(2), false)
	wantConflict(t, []int{math.MaxInt, 0, math.MaxInt}, []api.Sort{api.SortPlain}, lit(0), lit(2), true)
	wantConflict(t, nil, nil, lit(-1), lit(-2), false)
	wantConflict(t, nil, nil, lit(99), lit(100), false)
}

// TestOddSortsInConflict: such predicates are not plain, and no amounts.
func TestOddSortsInConflict(t *testing.T) {
	for _, sort := range []api.Sort{0, api.SortNumber, api.SortAmount, 4, -1} {
		wantConflict(t, []int{0, 0}, []api.Sort{sort, api.SortPlain}, lit(0), lit(1), false)
		wantConflict(t, []int{0, 0}, []api.Sort{sort, sort}, lit(0), lit(1), false)
		wantConflict(t, []int{0, 0}, []api.Sort{sort, sort}, lit(0), not(lit(0)), true)
		wantConflict(t, []int{0, 0}, []api.Sort{sort, sort}, lit(0), worth(lit(0), 1), sort == api.SortAmount)
	}
}
