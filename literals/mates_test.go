package literals_test

import (
	"math"
	"slices"
	"testing"

	"lexprior/api"
)

func TestMates(t *testing.T) {
	preds, class, _ := house()
	for _, each := range []struct {
		l    api.Lit
		want []api.Lit
	}{
		{lit(old, 0), []api.Lit{not(lit(old, 0))}},
		{not(lit(old, 0)), []api.Lit{lit(old, 0)}},
		{lit(rains), []api.Lit{not(lit(rains))}},
		{lit(lives, 2, 1), []api.Lit{not(lit(lives, 2, 1))}},
		// Values stand in another order than they are told in, and one of them twice.
		{worth(lit(grant), 5), []api.Lit{worth(lit(grant), -3), lit(grant), not(worth(lit(grant), 5)), worth(lit(grant), 7)}},
		{worth(lit(grant), 7), []api.Lit{worth(lit(grant), -3), lit(grant), worth(lit(grant), 5), not(worth(lit(grant), 7))}},
		{lit(grant), []api.Lit{worth(lit(grant), -3), not(lit(grant)), worth(lit(grant), 5), worth(lit(grant), 7)}},
		{not(worth(lit(grant), 5)), []api.Lit{worth(lit(grant), 5)}},
		// An amount in a class has the mates of an amount alone, whatever its Value.
		{lit(aid, 3), []api.Lit{not(lit(aid, 3)), worth(lit(aid, 3), 30)}},
		{worth(lit(aid, 3), 30), []api.Lit{lit(aid, 3), not(worth(lit(aid, 3), 30))}},
		{lit(single, 1), []api.Lit{not(lit(single, 1)), lit(married, 1), lit(divorced, 1)}},
		{lit(married, 1), []api.Lit{lit(single, 1), not(lit(married, 1)), lit(divorced, 1)}},
		{lit(divorced, 1), []api.Lit{lit(single, 1), lit(married, 1), not(lit(divorced, 1))}},
		{not(lit(married, 1)), []api.Lit{lit(married, 1)}},
		{lit(settled, 0, 1), []api.Lit{not(lit(settled, 0, 1))}},
		{lit(alone, 0), []api.Lit{not(lit(alone, 0))}},
		{lit(dry), []api.Lit{not(lit(dry)), lit(wet)}},
		{lit(wet), []api.Lit{lit(dry), not(lit(wet))}},
		{lit(old, math.MaxInt), []api.Lit{not(lit(old, math.MaxInt))}},
		{lit(lives, math.MaxInt, api.MaxMembers), []api.Lit{not(lit(lives, math.MaxInt, api.MaxMembers))}},
	} {
		wantMates(t, preds, class, each.l, each.want, api.OK)
	}
}

// wrong: literals of which Mates answers ErrLit: guards', and such as may not be.
func wrong() []api.Lit {
	return []api.Lit{
		guard(1), guard(math.MaxInt), guard(-1), not(guard(1)), guarded(lit(old, 0), 1), guarded(lit(rains), -1),
		lit(-1), lit(last + 1), lit(math.MaxInt), lit(old), lit(old, 0, 0), lit(old, -1), lit(lives, 0, -1), lit(lives, math.MinInt, 0), worth(lit(old, 0), 1),
		worth(lit(help, 0), 15), lit(help, 0), lit(income, 0), lit(age, 0), {},
	}
}

func TestNoMates(t *testing.T) {
	preds, class, _ := house()
	for _, l := range append(wrong(), lit(old, 0), worth(lit(help, 0), 10)) {
		for _, other := range [][]int{nil, {}, {0}, class[:last], append(slices.Clone(class), -1), append(slices.Clone(class), class...)} {
			wantMates(t, preds, other, l, nil, api.ErrArg)
		}
		wantMates(t, preds[:last], class, l, nil, api.ErrArg)
		wantMates(t, nil, class, l, nil, api.ErrArg)
		wantMates(t, nil, nil, l, nil, api.ErrLit)
	}
	for _, l := range wrong() {
		wantMates(t, preds, class, l, nil, api.ErrLit)
	}
}

// TestMatesOfOddPreds: what is in a class but not plain, or has other kinds, is nobody's mate; a plain one's Values say nothing.
func TestMatesOfOddPreds(t *testing.T) {
	kinds := []string{"k"}
	preds := []api.PredText{
		{Sort: api.SortPlain, Kinds: kinds, Values: []api.Money{0, 5}},
		{Sort: 0, Kinds: kinds},
		{Sort: 7, Kinds: kinds},
		{Sort: api.SortNumber, Kinds: kinds},
		{Sort: api.SortAmount, Kinds: kinds, Values: []api.Money{0}},
		{Sort: api.SortPlain},
		{Sort: api.SortPlain, Kinds: []string{"k", "k"}},
		{Sort: api.SortPlain, Kinds: []string{"another"}},
	}
	class := []int{3, 3, 3, 3, 3, 3, 3, 3}
	wantMates(t, preds, class, lit(0, 0), []api.Lit{not(lit(0, 0)), lit(7, 0)}, api.OK)
	wantMates(t, preds, class, lit(7, 0), []api.Lit{lit(0, 0), not(lit(7, 0))}, api.OK)
	wantMates(t, preds, class, lit(4, 0), []api.Lit{not(lit(4, 0))}, api.OK)
	wantMates(t, preds, class, lit(5), []api.Lit{not(lit(5))}, api.OK)
	none := []int{-1, -1, -1, -1, -1, -1, -1, -1}
	wantMates(t, preds, none, lit(0, 0), []api.Lit{not(lit(0, 0))}, api.OK)
	wantMates(t, preds, none, lit(7, 0), []api.Lit{not(lit(7, 0))}, api.OK)
	for pred := 1; pred <= 3; pred++ {
		wantMates(t, preds, class, lit(pred, 0), nil, api.ErrLit)
	}
}

// TestManyMates: of a class of many, and of an amount with many Values.
func TestManyMates(t *testing.T) {
	const many = 3000
	preds := make([]api.PredText, many)
	var mates, values []api.Lit
	var amount api.PredText
	for n := range many {
		preds[n].Sort = api.SortPlain
		amount.Values = append(amount.Values, api.Money(many-n), api.Money(many-n))
		mates, values = append(mates, lit(n)), append(values, worth(lit(0), api.Money(n+1)))
		if n == 1000 {
			mates[n], values[n] = not(mates[n]), not(values[n])
		}
	}
	wantMates(t, preds, make([]int, many), lit(1000), mates, api.OK)
	amount.Sort = api.SortAmount
	wantMates(t, []api.PredText{amount}, []int{-1}, worth(lit(0), 1001), values, api.OK)
}
