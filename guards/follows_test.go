package guards_test

import (
	"math/big"
	"slices"
	"testing"

	"lexprior/api"
	"lexprior/guards"
)

func guardOf(t testing.TB, a asked) api.Guard {
	t.Helper()
	g, errno := guards.Of(house(), a.text, a.names, a.members)
	if errno != api.OK {
		t.Fatalf("P10.2: Of(%+v): %d", a, errno)
	}
	return g
}

// shuffled: the same terms on each side in another order.
func (m *maker) shuffled(text api.GuardText) api.GuardText {
	text.Left, text.Right = slices.Clone(text.Left), slices.Clone(text.Right)
	for _, terms := range [][]api.TermText{text.Left, text.Right} {
		m.chance.Shuffle(len(terms), func(i, j int) { terms[i], terms[j] = terms[j], terms[i] })
	}
	return text
}

// moved: one term on the other side, with its sign turned; false, if the sides have no room for that.
func (m *maker) moved(text api.GuardText) (api.GuardText, bool) {
	text.Left, text.Right = slices.Clone(text.Left), slices.Clone(text.Right)
	from, to := &text.Left, &text.Right
	if m.oneIn(2) {
		from, to = to, from
	}
	if len(*from) == 1 || len(*to) == api.MaxTerms {
		return text, false
	}
	place := m.chance.Intn(len(*from))
	term := (*from)[place]
	term.Coef, term.Value = -term.Coef, -term.Value
	*from = slices.Delete(*from, place, place+1)
	*to = slices.Insert(*to, m.chance.Intn(len(*to)+1), term)
	return text, true
}

func TestOneGuard(t *testing.T) {
	m := newMaker(107)
	moves := 0
	for range 5000 {
		a := m.asked()
		want := guardOf(t, a)
		for range 5 {
			a.text = m.shuffled(a.text)
			if got := guardOf(t, a); !alike(got, want) || guards.Compare(got, want) != 0 {
				t.Fatalf("P10.6: with terms in another order, %+v: %+v, was %+v", a, got, want)
			}
			text, may := m.moved(a.text)
			if !may {
				continue
			}
			a.text = text
			moves++
			if got := guardOf(t, a); !alike(got, want) || guards.Compare(got, want) != 0 {
				t.Fatalf("P10.6: with a term on the other side, %+v: %+v, was %+v", a, got, want)
			}
		}
	}
	if moves < 5000 {
		t.Errorf("only %d terms were moved", moves)
	}
}

func TestCompareIsAnOrder(t *testing.T) {
	m := newMaker(108)
	all := slices.Concat(ordered(), wrong(), some(m, 100, 100, m.any), ordered())
	for _, a := range all {
		for _, b := range all {
			got := guards.Compare(a, b)
			if got != -guards.Compare(b, a) || (got == 0) != alike(a, b) || got < -1 || got > 1 {
				t.Fatalf("P10.7: Compare(%+v, %+v): %d, the other way round %d", a, b, got, guards.Compare(b, a))
			}
		}
	}
	for range 200000 {
		a, b, c := pick(m, all...), pick(m, all...), pick(m, all...)
		if guards.Compare(a, b) <= 0 && guards.Compare(b, c) <= 0 && guards.Compare(a, c) > 0 {
			t.Fatalf("P10.7: %+v is at most %+v, that at most %+v, but not the first at most the last", a, b, c)
		}
	}
}

// TestEachFieldIsCompared: guards that differ in one field alone are not the same.
func TestEachFieldIsCompared(t *testing.T) {
	make := func() api.Guard {
		return guard(api.OpMost, 5, times(1, worth(atom(1, 2, 3), 4)), times(2, atom(5)))
	}
	for n, change := range []func(g *api.Guard){
		func(g *api.Guard) { g.Op++ },
		func(g *api.Guard) { g.Const++ },
		func(g *api.Guard) { g.Terms[0].Coef++ },
		func(g *api.Guard) { g.Terms[1].Coef++ },
		func(g *api.Guard) { g.Terms[0].Atom.Pred++ },
		func(g *api.Guard) { g.Terms[1].Atom.Pred++ },
		func(g *api.Guard) { g.Terms[0].Atom.Args[0]++ },
		func(g *api.Guard) { g.Terms[0].Atom.Args[1]++ },
		func(g *api.Guard) { g.Terms[0].Atom.Args = append(g.Terms[0].Atom.Args, -9) },
		func(g *api.Guard) { g.Terms[0].Atom.Value++ },
		func(g *api.Guard) { g.Terms = append(g.Terms, times(-9, atom(-9))) },
	} {
		g := make()
		change(&g)
		if got := guards.Compare(make(), g); got != -1 {
			t.Errorf("P10.7: change %d: Compare(%+v, %+v): %d", n, make(), g, got)
		}
	}
}

// TestOneOfTwoHolds: of a guard and its opposite, where it is known; where it is not, neither.
func TestOneOfTwoHolds(t *testing.T) {
	m := newMaker(109)
	seen := tally[bool]{}
	for range 20000 {
		g, l := m.guard(), m.numbers()
		opposite, errno := guards.Opposite(g)
		twice, other := guards.Opposite(opposite)
		if errno != api.OK || other != api.OK || !alike(twice, g) {
			t.Fatalf("P10.8: %+v, its opposite %+v, twice %+v", g, opposite, twice)
		}
		known, holds := guards.Truth(g, l)
		otherKnown, otherHolds := guards.Truth(opposite, l)
		if known != otherKnown || (holds != otherHolds) != known || !known && holds {
			t.Fatalf("P10.8: %+v, %+v: %t, %t, the opposite %t, %t", g, l, known, holds, otherKnown, otherHolds)
		}
		seen[known]++
	}
	seen.want(t, "known", 1000, false, true)
}

// sideSum: what a side comes to by numbers; nil, if one has none.
func (a asked) sideSum(terms []api.TermText, l []api.Number) *big.Int {
	sum := new(big.Int)
	for _, t := range terms {
		if t.Pred == "" {
			sum.Add(sum, bigOf(int64(t.Value)))
			continue
		}
		one, _ := a.modelAtom(house(), t)
		value := modelNumber(l, one)
		if value == nil {
			return nil
		}
		sum.Add(sum, value.Mul(value, bigOf(t.Coef)))
	}
	return sum
}

func TestTruthOfTheText(t *testing.T) {
	m := newMaker(110)
	seen := tally[[2]bool]{}
	for range 20000 {
		a, l := m.asked(), m.allNumbers()
		if m.oneIn(4) {
			// Both sides with one sum.
			a.text.Right = m.shuffled(compared(0, a.text.Left, nil)).Left
		}
		left, right := a.sideSum(a.text.Left, l), a.sideSum(a.text.Right, l)
		if left == nil || right == nil {
			t.Fatalf("an atom of %+v has no number", a)
		}
		want := signHolds(a.text.Op, left.Cmp(right))
		known, holds := guards.Truth(guardOf(t, a), l)
		if !known || holds != want {
			t.Fatalf("P10.9: %+v by %+v: %d and %d, but %t, %t", a, l, left, right, known, holds)
		}
		seen[[2]bool{left.Cmp(right) == 0, holds}]++
	}
	seen.want(t, "alike and true", 500, [2]bool{}, [2]bool{false, true}, [2]bool{true, false}, [2]bool{true, true})
}
