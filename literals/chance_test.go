package literals_test

import (
	"slices"
	"testing"

	"lexprior/api"
	"lexprior/literals"
)

// tally counts answers by their error, so that a test can tell that it saw enough of each.
type tally map[api.Errno]int

func (y tally) want(t testing.TB, what string, least int, all ...api.Errno) {
	t.Helper()
	for _, errno := range all {
		if y[errno] < least {
			t.Errorf("only %d times %s: %d", y[errno], what, errno)
		}
	}
}

func TestPairsByChance(t *testing.T) {
	m := newMaker(91)
	var orders [3]int
	conflicts := 0
	for range 40000 {
		m.fresh()
		class, sorts := other(m, m.class, 0), other(m, m.sorts, api.SortAmount)
		a, b := m.any(), m.any()
		if m.oneIn(2) {
			b.Atom.Args = a.Atom.Args
		}
		want := modelCompare(a, b)
		wantCompare(t, a, b, want)
		wantConflict(t, class, sorts, a, b, modelConflict(class, sorts, a, b))
		if t.Failed() {
			return
		}
		orders[want+1]++
		conflicts += oneIf(modelConflict(class, sorts, a, b))
	}
	if slices.Min(orders[:]) < 1000 || conflicts < 1000 {
		t.Errorf("only %d in this order, or %d in conflict", orders, conflicts)
	}
}

func TestChecksByChance(t *testing.T) {
	m := newMaker(92)
	seen, turned := tally{}, tally{}
	for range 40000 {
		m.fresh()
		l, members, want := m.any(), m.chance.Intn(5), api.OK
		if !modelMay(m.preds, members, l) {
			want = api.ErrLit
		}
		wantCheck(t, m.preds, members, l, want)
		seen[want]++
		complement, want := l, api.OK
		complement.Neg = !l.Neg
		if modelGuard(l) {
			complement, want = api.Lit{}, api.ErrLit
		}
		wantComplement(t, l, complement, want)
		turned[want]++
		if t.Failed() {
			return
		}
	}
	seen.want(t, "Check", 1000, api.OK, api.ErrLit)
	turned.want(t, "Complement", 1000, api.OK, api.ErrLit)
}

func TestMatesByChance(t *testing.T) {
	t.Parallel()
	m := newMaker(93)
	seen, many := tally{}, 0
	for range 20000 {
		m.fresh()
		class, l := other(m, m.class, 0), m.any()
		want, errno := modelMates(m.preds, class, l)
		wantMates(t, m.preds, class, l, want, errno)
		if t.Failed() {
			return
		}
		seen[errno]++
		many += oneIf(len(want) > 2)
	}
	seen.want(t, "Mates", 1000, api.OK, api.ErrArg, api.ErrLit)
	if many < 500 {
		t.Errorf("only %d have more than two mates", many)
	}
}

func TestListsByChance(t *testing.T) {
	t.Parallel()
	m := newMaker(94)
	closed, rising, found := tally{}, tally{}, [2]int{}
	for n := range 10000 {
		m.fresh()
		make := pick(m, m.literal, m.literal, m.any)
		class, l := other(m, m.class, 0), m.list(make)
		want, errno := modelClose(m.preds, class, l)
		wantClose(t, m.preds, class, l, want, errno)
		closed[errno]++
		if n%3 > 0 {
			l = sorted(append(l, want...))
		}
		sorts := other(m, m.sorts, api.SortAmount)
		foes, errno := modelFoes(class, sorts, l)
		wantFoes(t, class, sorts, l, foes, errno)
		rising[errno]++
		for _, x := range append(m.list(m.any), l...) {
			place, there := modelFind(l, x)
			wantFind(t, l, x, place, there)
			found[oneIf(there)]++
		}
		if t.Failed() {
			return
		}
	}
	closed.want(t, "Close", 500, api.OK, api.ErrArg, api.ErrLit)
	rising.want(t, "Foes", 500, api.OK, api.ErrOrder)
	if found[0] < 1000 || found[1] < 1000 {
		t.Errorf("only %d found or not", found)
	}
}

// TestLongClosesByChance: about as many as there may be.
func TestLongClosesByChance(t *testing.T) {
	t.Parallel()
	m := newMaker(95)
	seen := tally{}
	for range 30 {
		m.fresh()
		var l []api.Lit
		for n := range 3000 + m.chance.Intn(900) {
			one := m.literal()
			if len(one.Atom.Args) > 0 {
				one.Atom.Args[0] = n
			}
			if literals.Check(m.preds, n+9, one) == api.OK {
				l = append(l, one)
			}
		}
		want, errno := modelClose(m.preds, m.class, l)
		wantClose(t, m.preds, m.class, l, want, errno)
		if t.Failed() {
			return
		}
		seen[errno]++
	}
	seen.want(t, "Close of many", 5, api.OK, api.ErrLits)
}
