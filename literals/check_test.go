package literals_test

import (
	"cmp"
	"math"
	"testing"

	"lexprior/api"
)

// ordered: literals of all kinds, also such as may not be, each above those ahead of it.
func ordered() []api.Lit {
	return []api.Lit{
		lit(math.MinInt),
		guarded(lit(-1, 5), 1),
		worth(lit(0), math.MinInt64),
		guarded(worth(lit(0), -1), 3),
		guarded(lit(0), math.MinInt),
		guarded(lit(0), -1),
		lit(0),
		guarded(not(lit(0)), -2),
		not(lit(0)),
		guarded(not(lit(0)), 1),
		guarded(not(lit(0)), 2),
		worth(lit(0), 1),
		guarded(worth(lit(0), 1), 1),
		not(worth(lit(0), 1)),
		lit(0, math.MinInt),
		lit(0, -1),
		lit(0, 0),
		guarded(lit(0, 0), 1),
		not(lit(0, 0)),
		worth(lit(0, 0), 10),
		not(worth(lit(0, 0), 10)),
		worth(lit(0, 0), 20),
		not(worth(lit(0, 0), 20)),
		lit(0, 0, -1),
		lit(0, 0, 0),
		lit(0, 0, 0, 0),
		lit(0, 0, 1),
		lit(0, 1),
		not(lit(0, 1)),
		lit(0, 1, 0),
		lit(0, 9),
		lit(0, 10),
		lit(0, math.MaxInt),
		lit(1),
		guarded(lit(1), 1),
		guarded(lit(1), 2),
		not(lit(1)),
		lit(1, 0),
		lit(9),
		lit(10),
		worth(lit(10), math.MaxInt64),
		lit(math.MaxInt),
		not(worth(lit(math.MaxInt, math.MaxInt, math.MaxInt), math.MaxInt64)),
		guard(1),
		guard(2),
		guard(9),
		guard(10),
		guard(math.MaxInt),
	}
}

func TestOrder(t *testing.T) {
	all := ordered()
	for i, a := range all {
		for j, b := range all {
			wantCompare(t, a, b, cmp.Compare(i, j))
		}
	}
}

func TestLiteralsThatMayBe(t *testing.T) {
	preds, _, _ := house()
	for _, l := range []api.Lit{
		lit(old, 0), lit(old, 1), lit(old, 2), not(lit(old, 2)), lit(rains), not(lit(rains)), lit(rains, []int{}...),
		lit(lives, 0, 2), lit(lives, 2, 2), not(lit(lives, 1, 0)), lit(last),
		worth(lit(help, 2), 10), worth(lit(help, 0), 20), not(worth(lit(help, 0), 20)),
		worth(lit(grant), 7), worth(lit(grant), 5), worth(lit(grant), 0), not(worth(lit(grant), -3)), lit(aid, 1),
		guard(1), guard(2), guard(math.MaxInt), {Guard: 1, Atom: api.Atom{Args: []int{}}},
	} {
		wantCheck(t, preds, 3, l, api.OK)
	}
	wantCheck(t, preds, math.MaxInt, lit(old, math.MaxInt-1), api.OK)
	wantCheck(t, preds, 1, lit(old, 0), api.OK)
	for _, members := range []int{0, -1, math.MinInt} {
		wantCheck(t, preds, members, lit(rains), api.OK)
		wantCheck(t, preds, members, worth(lit(grant), 7), api.OK)
		wantCheck(t, preds, members, guard(1), api.OK)
	}
	wantCheck(t, nil, 0, guard(1), api.OK)
	long := make([]int, 100)
	wantCheck(t, []api.PredText{{Sort: api.SortPlain, Kinds: make([]string, 100)}}, 1, lit(0, long...), api.OK)
}

func TestLiteralsThatMayNotBe(t *testing.T) {
	preds, _, _ := house()
	for _, l := range []api.Lit{
		lit(-1), lit(-1, 0), lit(math.MinInt, 0), lit(last + 1), lit(last+1, 0), lit(math.MaxInt, 0),
		lit(old), lit(old, 0, 0), lit(old, 0, 1, 2, 0), lit(rains, 0), lit(lives, 0), lit(lives, 0, 1, 2), worth(lit(help), 10), worth(lit(help, 0, 0), 10), worth(lit(grant, 0), 5),
		lit(old, -1), lit(old, 3), lit(old, math.MinInt), lit(old, math.MaxInt), lit(lives, 0, 3), lit(lives, 3, 0), lit(lives, -1, 0), lit(lives, 0, -1), worth(lit(help, 3), 10),
		worth(lit(old, 0), 1), worth(lit(old, 0), -1), worth(lit(old, 0), 10), not(worth(lit(rains), 7)),
		lit(help, 0), worth(lit(help, 0), 15), worth(lit(help, 0), -10), not(worth(lit(help, 0), 30)), worth(lit(grant), 3), worth(lit(aid, 0), 10),
		lit(income, 0), not(lit(age, 0)), lit(income), worth(lit(income, 0), 10),
		guarded(lit(old, 0), 1), guarded(lit(old, 0), -1), guarded(lit(rains), 1), guarded(worth(lit(help, 0), 10), 2),
		guard(-1), guard(math.MinInt), guarded(not(guard(1)), 1), guarded(lit(1), 1), guarded(lit(-1), 1), guarded(lit(0, 0), 1), guarded(worth(lit(0), 1), 1), guarded(worth(lit(0), -1), 1),
		{}, lit(old, 0, 0, 0, 0, 0),
	} {
		wantCheck(t, preds, 3, l, api.ErrLit)
	}
	wantCheck(t, preds, math.MaxInt, lit(old, math.MaxInt), api.ErrLit)
	for _, members := range []int{0, -1, math.MinInt} {
		wantCheck(t, preds, members, lit(old, 0), api.ErrLit)
		wantCheck(t, preds, members, lit(old, -1), api.ErrLit)
		wantCheck(t, preds, members, lit(old, members), api.ErrLit)
	}
	wantCheck(t, nil, 3, lit(0), api.ErrLit)
	wantCheck(t, []api.PredText{}, 3, api.Lit{}, api.ErrLit)
}

// TestOddSorts: a predicate that is neither plain nor an amount has no literal; a plain one's Values say nothing, nor does an amount without any.
func TestOddSorts(t *testing.T) {
	for _, sort := range []api.Sort{0, api.SortNumber, 4, -1, math.MinInt, math.MaxInt} {
		wantCheck(t, []api.PredText{{Sort: sort}}, 1, api.Lit{}, api.ErrLit)
		wantCheck(t, []api.PredText{{Sort: sort, Values: []api.Money{0}}}, 1, api.Lit{}, api.ErrLit)
	}
	plain := []api.PredText{{Sort: api.SortPlain, Values: []api.Money{5}}}
	wantCheck(t, plain, 1, api.Lit{}, api.OK)
	wantCheck(t, plain, 1, worth(api.Lit{}, 5), api.ErrLit)
	none := []api.PredText{{Sort: api.SortAmount}}
	wantCheck(t, none, 1, api.Lit{}, api.ErrLit)
	wantCheck(t, none, 1, worth(api.Lit{}, 5), api.ErrLit)
}

// TestComplements: of all but guards' literals, whether or not they may be.
func TestComplements(t *testing.T) {
	for _, l := range ordered() {
		if l.Guard >= 1 && alike(l, guard(l.Guard)) {
			wantComplement(t, l, api.Lit{}, api.ErrLit)
			continue
		}
		want := l
		want.Neg = !l.Neg
		wantComplement(t, l, want, api.OK)
	}
	wantComplement(t, api.Lit{Guard: 1, Atom: api.Atom{Args: []int{}}}, api.Lit{}, api.ErrLit)
	wantComplement(t, lit(old, 4), not(lit(old, 4)), api.OK)
	wantComplement(t, not(worth(lit(help, 4), 10)), worth(lit(help, 4), 10), api.OK)
}
