package guards_test

import (
	"slices"
	"testing"

	"lexprior/api"
	"lexprior/guards"
)

// tally counts answers, so that a test can tell that it saw enough of each.
type tally[T comparable] map[T]int

func (y tally[T]) want(t testing.TB, what string, least int, all ...T) {
	t.Helper()
	for _, one := range all {
		if y[one] < least {
			t.Errorf("only %d times %s: %v", y[one], what, one)
		}
	}
}

func TestOrdersByChance(t *testing.T) {
	m := newMaker(101)
	orders, atoms := tally[int]{}, tally[int]{}
	for range 40000 {
		a, b := m.any(), m.any()
		if m.oneIn(2) {
			b.Terms = slices.Clone(a.Terms)
		}
		if m.oneIn(2) {
			b.Const = a.Const
		}
		want := compareRows(row(a), row(b))
		wantCompare(t, a, b, want)
		orders[want]++
		one, other := m.atom(), m.atom()
		if m.oneIn(2) {
			other = m.spoiltAtom(one)
		}
		want = compareAtomRows(one, other)
		wantCompareAtoms(t, one, other, want)
		atoms[want]++
		if t.Failed() {
			return
		}
	}
	orders.want(t, "Compare", 1000, -1, 0, 1)
	atoms.want(t, "CompareAtoms", 1000, -1, 0, 1)
}

func TestTextsByChance(t *testing.T) {
	m := newMaker(102)
	seen := tally[api.Errno]{}
	joined := 0
	for range 30000 {
		a := m.asked()
		for range m.chance.Intn(4) {
			m.spoil(&a)
		}
		want, errno := a.modelOf(house())
		a.want(t, want, errno)
		if t.Failed() {
			return
		}
		seen[errno]++
		if errno == api.OK && len(want.Terms) < len(a.text.Left)+len(a.text.Right) {
			joined++
		}
	}
	seen.want(t, "Of", 300, api.OK, api.ErrCount, api.ErrGuard, api.ErrOver, api.ErrName, api.ErrArity, api.ErrArg)
	if joined < 1000 {
		t.Errorf("only %d have fewer terms than their text", joined)
	}
}

func TestGuardsByChance(t *testing.T) {
	m := newMaker(103)
	checked, printed := tally[api.Errno]{}, tally[api.Errno]{}
	for range 30000 {
		g, want := m.any(), api.OK
		if !modelMay(g) {
			want = api.ErrGuard
		}
		wantCheck(t, g, want)
		checked[want]++
		opposite := api.Guard{}
		if want == api.OK {
			opposite = guard(turnedOp(g.Op), g.Const, g.Terms...)
		}
		wantOpposite(t, g, opposite, want)
		s := house()
		s.Preds, s.Members = s.Preds[:3+m.chance.Intn(2)], s.Members[:2+m.chance.Intn(2)]
		text, errno := modelPrint(s, g)
		wantPrint(t, s, g, text, errno)
		printed[errno]++
		if t.Failed() {
			return
		}
	}
	checked.want(t, "Check", 1000, api.OK, api.ErrGuard)
	printed.want(t, "Print", 1000, api.OK, api.ErrGuard, api.ErrName)
}

// turnedOp: the Op that takes just the signs that the other one does not.
func turnedOp(op api.Op) api.Op {
	for _, other := range allOps() {
		if signHolds(op, -1) != signHolds(other, -1) && signHolds(op, 0) != signHolds(other, 0) && signHolds(op, 1) != signHolds(other, 1) {
			return other
		}
	}
	return 0
}

func TestTruthsByChance(t *testing.T) {
	m := newMaker(104)
	seen := tally[[2]bool]{}
	for range 20000 {
		g, l := m.any(), m.numbers()
		known, holds := modelTruth(g, l)
		wantTruth(t, g, l, known, holds)
		if t.Failed() {
			return
		}
		seen[[2]bool{known, holds}]++
	}
	seen.want(t, "Truth", 1000, [2]bool{}, [2]bool{true, false}, [2]bool{true, true})
}

func TestListsByChance(t *testing.T) {
	m := newMaker(105)
	seen := tally[api.Errno]{}
	for range 20000 {
		l := some(m, 0, 6, m.any)
		wantAtoms(t, l, modelAtoms(l...))
		numbers := m.rising()
		want := modelNumbers(numbers)
		wantNumbers(t, numbers, want)
		if t.Failed() {
			return
		}
		seen[want]++
	}
	seen.want(t, "CheckNumbers", 500, api.OK, api.ErrGuard, api.ErrOver, api.ErrOrder)
}

// TestWhatOfMakes: whatever the text, it may be.
func TestWhatOfMakes(t *testing.T) {
	m := newMaker(106)
	for range 5000 {
		a := m.asked()
		g, errno := guards.Of(house(), a.text, a.names, a.members)
		if errno != api.OK {
			t.Fatalf("P10.2: Of(%+v): %d", a, errno)
		}
		wantCheck(t, g, api.OK)
		if t.Failed() {
			return
		}
	}
}
