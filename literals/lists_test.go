package literals_test

import (
	"math"
	"slices"
	"testing"

	"lexprior/api"
	"lexprior/literals"
)

func TestClosed(t *testing.T) {
	preds, class, _ := house()
	ten, twenty := worth(lit(help, 0), 10), worth(lit(help, 0), 20)
	one := func(pred int) []api.Lit { return []api.Lit{lit(pred, 1), not(lit(pred, 1))} }
	for _, each := range []struct {
		l    []api.Lit
		want []api.Lit
	}{
		{nil, nil},
		{[]api.Lit{}, nil},
		{[]api.Lit{not(lit(old, 0))}, []api.Lit{lit(old, 0), not(lit(old, 0))}},
		{[]api.Lit{not(ten)}, []api.Lit{ten, not(ten)}},
		{[]api.Lit{ten}, []api.Lit{ten, not(ten), twenty}},
		{[]api.Lit{twenty, ten}, []api.Lit{ten, not(ten), twenty, not(twenty)}},
		{[]api.Lit{twenty, ten, not(ten), ten, twenty}, []api.Lit{ten, not(ten), twenty, not(twenty)}},
		{[]api.Lit{lit(married, 1)}, []api.Lit{lit(single, 1), lit(married, 1), not(lit(married, 1)), lit(divorced, 1)}},
		{[]api.Lit{lit(divorced, 1), not(lit(single, 1))}, []api.Lit{lit(single, 1), not(lit(single, 1)), lit(married, 1), lit(divorced, 1), not(lit(divorced, 1))}},
		{[]api.Lit{lit(married, 1), lit(divorced, 1), lit(single, 1)}, slices.Concat(one(single), one(married), one(divorced))},
		{[]api.Lit{guard(7)}, []api.Lit{guard(7)}},
		{[]api.Lit{guard(7), lit(wet), guard(3), guard(7), lit(lives, 9, math.MaxInt)}, []api.Lit{lit(lives, 9, math.MaxInt), not(lit(lives, 9, math.MaxInt)), lit(dry), lit(wet), not(lit(wet)), guard(3), guard(7)}},
	} {
		wantClose(t, preds, class, each.l, each.want, api.OK)
	}
	wantClose(t, nil, nil, nil, nil, api.OK)
	wantClose(t, nil, []int{}, []api.Lit{guard(2), guard(1)}, []api.Lit{guard(1), guard(2)}, api.OK)
}

func TestNotClosed(t *testing.T) {
	preds, class, _ := house()
	right := []api.Lit{guard(1), lit(old, 0), worth(lit(help, 0), 10)}
	for _, l := range append(wrong(), lit(old, 0)) {
		for _, list := range [][]api.Lit{nil, {l}, append(slices.Clone(right), l)} {
			wantClose(t, preds, class[:last], list, nil, api.ErrArg)
			wantClose(t, preds, append(slices.Clone(class), 0), list, nil, api.ErrArg)
			wantClose(t, preds, nil, list, nil, api.ErrArg)
			wantClose(t, nil, class, list, nil, api.ErrArg)
		}
	}
	for _, l := range wrong() {
		if alike(l, guard(l.Guard)) && l.Guard >= 1 {
			continue
		}
		wantClose(t, preds, class, []api.Lit{l}, nil, api.ErrLit)
		wantClose(t, preds, class, append(slices.Clone(right), l), nil, api.ErrLit)
		wantClose(t, preds, class, append([]api.Lit{l}, right...), nil, api.ErrLit)
	}
}

// guards: so many guards' literals.
func guards(many int) []api.Lit {
	var l []api.Lit
	for n := range many {
		l = append(l, guard(n+1))
	}
	return l
}

// olds: old of so many members.
func olds(many int) []api.Lit {
	var l []api.Lit
	for n := range many {
		l = append(l, lit(old, n))
	}
	return l
}

// TestClosedAtTheLimit: mates and guards' literals count, one that comes twice does not.
func TestClosedAtTheLimit(t *testing.T) {
	t.Parallel()
	preds, class, _ := house()
	wantMany := func(what string, many int, l []api.Lit) {
		t.Helper()
		got, errno := literals.Close(preds, class, l)
		if errno != api.OK || len(got) != many || !slices.IsSortedFunc(got, literals.Compare) {
			t.Errorf("P9.4: Close of %s: %d literals, %d, want %d", what, len(got), errno, many)
		}
		again, errno := literals.Close(preds, class, slices.Concat(l, l, l))
		if errno != api.OK || !slices.EqualFunc(got, again, alike) {
			t.Errorf("P9.4: Close of %s, thrice: %d literals, %d, want %d", what, len(again), errno, many)
		}
	}
	tooMany := func(l ...[]api.Lit) {
		t.Helper()
		wantClose(t, preds, class, slices.Concat(l...), nil, api.ErrLits)
		wantClose(t, preds, class, append(slices.Concat(l...), lit(income, 0)), nil, api.ErrLit)
		wantClose(t, preds, class[1:], slices.Concat(l...), nil, api.ErrArg)
	}
	wantMany("guards", 4096, guards(4096))
	tooMany(guards(4097))
	tooMany(guards(20000))
	wantMany("old ones", 4096, olds(2048))
	tooMany(olds(2049))
	tooMany(olds(100000))
	tooMany(olds(2048), guards(1))
	wantMany("old ones and guards", 4096, append(guards(96), olds(2000)...))
	tooMany(guards(97), olds(2000))
	wantMany("one ahead of it", 4095, append(olds(2047), guard(1)))
	wantMany("an amount and old ones", 4095, append(olds(2046), worth(lit(help, 0), 10)))
	wantMany("an amount's two and old ones", 4096, append(olds(2046), worth(lit(help, 0), 10), worth(lit(help, 0), 20)))
	tooMany(olds(2046), guards(1), []api.Lit{worth(lit(help, 0), 10), worth(lit(help, 0), 20)})
}

// manyValues: an amount with so many Values, and a literal of each; each is in conflict with each.
func manyValues(many int) ([]api.PredText, []int, []api.Lit) {
	amount := api.PredText{Sort: api.SortAmount}
	var l []api.Lit
	for n := range many {
		amount.Values = append(amount.Values, api.Money(n))
		l = append(l, worth(lit(0), api.Money(n)))
	}
	return []api.PredText{amount}, []int{-1}, l
}

// TestClosedFamilies: those of which many have the same mates.
func TestClosedFamilies(t *testing.T) {
	t.Parallel()
	preds, class, l := manyValues(600)
	got, errno := literals.Close(preds, class, l)
	if errno != api.OK || len(got) != 1200 {
		t.Errorf("P9.4: Close of 600 values: %d literals, %d", len(got), errno)
	}
	wantClose(t, preds, class, slices.Repeat(l, 30), got, api.OK)
	preds, class, l = manyValues(3999)
	for _, many := range []int{96, 97} {
		got, errno := literals.Close(preds, class, l[:many])
		if errno != api.OK || len(got) != 3999+many {
			t.Errorf("P9.4: Close of %d of 3999 values: %d literals, %d", many, len(got), errno)
		}
	}
	wantClose(t, preds, class, l[:98], nil, api.ErrLits)
	preds, class, l = manyValues(4095)
	got, errno = literals.Close(preds, class, l[17:18])
	if errno != api.OK || len(got) != 4096 || !alike(got[18], not(l[17])) {
		t.Errorf("P9.4: Close of one of 4095 values: %d literals, %d", len(got), errno)
	}
	wantClose(t, preds, class, l[17:19], nil, api.ErrLits)
	wantClose(t, preds, class, l, nil, api.ErrLits)
	preds, class, l = manyValues(4096)
	wantClose(t, preds, class, l[:1], nil, api.ErrLits)
	wantClose(t, preds, class, []api.Lit{not(l[0])}, []api.Lit{l[0], not(l[0])}, api.OK)
	preds, class, l = manyValues(9000)
	wantClose(t, preds, class, l[:2], nil, api.ErrLits)
}

func TestFoes(t *testing.T) {
	preds, class, sorts := house()
	ten, twenty := worth(lit(help, 0), 10), worth(lit(help, 0), 20)
	for _, each := range []struct {
		l    []api.Lit
		want [][]int
	}{
		{nil, nil},
		{[]api.Lit{}, nil},
		{[]api.Lit{lit(old, 0)}, [][]int{nil}},
		{[]api.Lit{lit(old, 0), lit(old, 1)}, [][]int{nil, nil}},
		{[]api.Lit{ten, not(ten), twenty, not(twenty)}, [][]int{{1, 2}, {0}, {0, 3}, {2}}},
		{[]api.Lit{not(ten), twenty}, [][]int{nil, nil}},
		{[]api.Lit{lit(old, 0), not(lit(old, 1)), ten, lit(single, 1), not(lit(single, 1)), lit(married, 0), lit(married, 1), lit(divorced, 0), lit(divorced, 1)}, [][]int{nil, nil, nil, {4, 6, 8}, {3}, {7}, {3, 8}, {5}, {3, 6}}},
		{[]api.Lit{lit(old), not(lit(old)), guard(1), guard(2)}, [][]int{{1}, {0}, nil, nil}},
		// Such as may not be: they are asked, too.
		{[]api.Lit{lit(-5, 1), not(lit(-5, 1)), lit(income, 0), not(lit(income, 0)), worth(lit(income, 0), 5), lit(99), not(lit(99))}, [][]int{{1}, {0}, {3}, {2}, nil, {6}, {5}}},
		{[]api.Lit{guarded(lit(1), -1), lit(1), guarded(lit(1), 1), not(lit(1)), guarded(not(lit(1)), 1), guard(1)}, [][]int{{3, 4}, {3, 4}, {3, 4}, {0, 1, 2}, {0, 1, 2}, nil}},
	} {
		wantFoes(t, class, sorts, each.l, each.want, api.OK)
	}
	amounts := []api.Lit{worth(lit(grant), -3), lit(grant), worth(lit(grant), 5), worth(lit(grant), 7)}
	wantFoes(t, class, sorts, amounts, [][]int{{1, 2, 3}, {0, 2, 3}, {0, 1, 3}, {0, 1, 2}}, api.OK)
	wantFoes(t, nil, nil, amounts, [][]int{nil, nil, nil, nil}, api.OK)
	of := []api.Lit{lit(single, 0), lit(aid, 0), lit(age, 0)}
	wantFoes(t, class, sorts, of, [][]int{nil, nil, nil}, api.OK)
	wantFoes(t, class, nil, of, [][]int{{1, 2}, {0, 2}, {0, 1}}, api.OK)
	wantFoes(t, class[:age], sorts[:aid], of, [][]int{{1}, {0}, nil}, api.OK)
	wantFoes(t, nil, sorts, of, [][]int{nil, nil, nil}, api.OK)
	if len(preds) != len(class) {
		t.Errorf("house has %d predicates and %d classes", len(preds), len(class))
	}
}

// TestListsThatDoNotRise: also those with one literal twice.
func TestListsThatDoNotRise(t *testing.T) {
	_, class, sorts := house()
	all := ordered()
	wantRising := func(l []api.Lit, rising bool) {
		t.Helper()
		foes, errno := literals.Foes(class, sorts, l)
		if rising && (errno != api.OK || len(foes) != len(l)) || !rising && (errno != api.ErrOrder || len(foes) != 0) {
			t.Errorf("P9.4: Foes of %+v: %d, %d", l, foes, errno)
		}
	}
	wantRising(all, true)
	for n := range all {
		wantRising([]api.Lit{all[n], all[n]}, false)
		wantRising(slices.Insert(slices.Clone(all), n, all[n]), false)
		wantRising(slices.Insert(slices.Clone(all), 0, all[n]), false)
		if n > 0 {
			wantRising([]api.Lit{all[n], all[n-1]}, false)
			turned := slices.Clone(all)
			turned[n-1], turned[n] = all[n], all[n-1]
			wantRising(turned, false)
			wantRising(append(slices.Clone(all), all[n-1]), false)
		}
	}
}

func TestFind(t *testing.T) {
	all := ordered()
	for n, l := range all {
		wantFind(t, all, l, n, true)
		wantFind(t, all[n:], l, 0, true)
		wantFind(t, all[:n], l, 0, false)
		wantFind(t, all[n+1:], l, 0, false)
		wantFind(t, slices.Delete(slices.Clone(all), n, n+1), l, 0, false)
	}
	back := slices.Clone(all)
	slices.Reverse(back)
	twice := slices.Concat(back, all, all)
	for n, l := range back {
		wantFind(t, back, l, n, true)
		wantFind(t, twice, l, n, true)
	}
	wantFind(t, nil, api.Lit{}, 0, false)
	wantFind(t, []api.Lit{}, guard(1), 0, false)
	wantFind(t, []api.Lit{lit(3, 1), lit(2, 1), lit(3, 1), lit(1, 1)}, lit(3, 1), 0, true)
	wantFind(t, []api.Lit{lit(3, 1), lit(2, 1), lit(3, 1), lit(2, 1)}, lit(2, 1), 1, true)
	wantFind(t, []api.Lit{lit(3, 1), lit(2, 1), lit(3, 1)}, lit(2, 2), 0, false)
	wantFind(t, []api.Lit{lit(1), {Atom: api.Atom{Pred: 2, Args: []int{}}}}, lit(2), 1, true)
	wantFind(t, []api.Lit{lit(1), lit(2)}, api.Lit{Atom: api.Atom{Pred: 2, Args: []int{}}}, 1, true)
}

// TestManyFoes: of a list that is longer than any theory's.
func TestManyFoes(t *testing.T) {
	t.Parallel()
	const many = 100000
	var l []api.Lit
	want := make([][]int, 2*many)
	for n := range many {
		l = append(l, lit(old, n), not(lit(old, n)))
		want[2*n], want[2*n+1] = []int{2*n + 1}, []int{2 * n}
	}
	wantFoes(t, nil, nil, l, want, api.OK)
	wantFoes(t, nil, nil, guards(many), make([][]int, many), api.OK)
}
