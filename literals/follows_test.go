package literals_test

import (
	"slices"
	"testing"

	"lexprior/api"
	"lexprior/literals"
)

// universe: literals that may be for house, of two members, and such as may not be.
func universe() []api.Lit {
	preds, _, _ := house()
	return slices.Concat(everything(preds, []int{0, 1}), ordered(), wrong())
}

func TestCompareIsAnOrder(t *testing.T) {
	all := universe()
	for _, a := range all {
		for _, b := range all {
			got := literals.Compare(a, b)
			if got != -literals.Compare(b, a) || (got == 0) != alike(a, b) || got < -1 || got > 1 {
				t.Fatalf("P9.5: Compare(%+v, %+v): %d, the other way round %d", a, b, got, literals.Compare(b, a))
			}
		}
	}
	m := newMaker(96)
	for range 200000 {
		a, b, c := pick(m, all...), pick(m, all...), pick(m, all...)
		if literals.Compare(a, b) <= 0 && literals.Compare(b, c) <= 0 && literals.Compare(a, c) > 0 {
			t.Fatalf("P9.5: %+v is at most %+v, that at most %+v, but not the first at most the last", a, b, c)
		}
	}
}

func TestConflictIsSymmetric(t *testing.T) {
	_, class, sorts := house()
	all := universe()
	for _, a := range all {
		for _, b := range all {
			one, turned := literals.Conflict(class, sorts, a, b), literals.Conflict(class, sorts, b, a)
			if one != turned || one && alike(a, b) {
				t.Fatalf("P9.5: Conflict(%+v, %+v): %t, the other way round %t", a, b, one, turned)
			}
		}
	}
}

// TestMatesAreInConflict: just those of all literals that may be.
func TestMatesAreInConflict(t *testing.T) {
	preds, class, sorts := house()
	all := everything(preds, []int{0, 1})
	for _, a := range all {
		mates, errno := literals.Mates(preds, class, a)
		if errno != api.OK {
			t.Fatalf("P9.5: Mates(%+v): %d", a, errno)
		}
		for _, b := range all {
			_, is := literals.Find(mates, b)
			if conflict := literals.Conflict(class, sorts, a, b); conflict != is {
				t.Fatalf("P9.5: %+v, %+v: in conflict %t, mates %t", a, b, conflict, is)
			}
		}
		for _, b := range mates {
			if literals.Check(preds, 2, b) != api.OK {
				t.Fatalf("P9.5: %+v is no literal that may be", b)
			}
		}
		complement, _ := literals.Complement(a)
		if _, is := literals.Find(mates, complement); !is {
			t.Fatalf("P9.5: Mates(%+v): %+v without its complement", a, mates)
		}
	}
}

func closeOf(t testing.TB, m *maker, l []api.Lit) []api.Lit {
	t.Helper()
	all, errno := literals.Close(m.preds, m.class, l)
	if errno != api.OK {
		t.Fatalf("P9.6: Close(%+v, %d, %+v): %d", m.preds, m.class, l, errno)
	}
	return all
}

// rightLits: literals that may be, and guards'.
func (m *maker) rightLits() []api.Lit {
	return slices.DeleteFunc(m.list(m.literal), func(l api.Lit) bool { return !modelMay(m.preds, -1, l) })
}

func TestCloses(t *testing.T) {
	m := newMaker(97)
	for range 3000 {
		m.fresh()
		l := m.rightLits()
		once := closeOf(t, m, l)
		twice := closeOf(t, m, once)
		thrice := closeOf(t, m, twice)
		again := closeOf(t, m, thrice)
		for _, x := range l {
			if _, there := literals.Find(once, x); !there {
				t.Fatalf("P9.6: %+v is not in Close(%+v)", x, l)
			}
			for _, y := range everything(m.preds, []int{0, 1, 2}) {
				if _, there := literals.Find(once, y); !there && literals.Conflict(m.class, m.sorts, x, y) {
					t.Fatalf("P9.6: %+v is in conflict with %+v, but not in Close(%+v)", y, x, l)
				}
			}
		}
		for _, y := range once {
			if _, there := literals.Find(twice, y); !there {
				t.Fatalf("P9.6: %+v is in Close(%+v), but not in that of it", y, l)
			}
		}
		wantMore(t, m, once, twice)
		wantMore(t, m, twice, thrice)
		// Of a negated one: what it negates, the mates of that, their complements; then there is nothing more.
		if !slices.EqualFunc(thrice, again, alike) {
			t.Fatalf("P9.6: Close of %+v, four times: %+v, thrice: %+v", l, again, thrice)
		}
	}
}

// wantMore: what a list is larger by are mates of what it was.
func wantMore(t testing.TB, m *maker, was, now []api.Lit) {
	t.Helper()
	for _, y := range now {
		if _, there := literals.Find(was, y); there {
			continue
		}
		if !slices.ContainsFunc(was, func(x api.Lit) bool { return literals.Conflict(m.class, m.sorts, x, y) }) {
			t.Fatalf("P9.6: %+v is in the Close of %+v, but no mate", y, was)
		}
	}
}

func TestFoesAreSymmetric(t *testing.T) {
	m := newMaker(98)
	pairs := 0
	for range 3000 {
		m.fresh()
		l := closeOf(t, m, m.rightLits())
		foes, errno := literals.Foes(m.class, m.sorts, l)
		if errno != api.OK || len(foes) != len(l) {
			t.Fatalf("P9.6: Foes(%+v): %d, %d", l, foes, errno)
		}
		for a := range foes {
			for n, b := range foes[a] {
				if a == b || !slices.Contains(foes[b], a) || n > 0 && foes[a][n-1] >= b {
					t.Fatalf("P9.6: Foes(%+v): %d", l, foes)
				}
				pairs++
			}
		}
	}
	if pairs < 10000 {
		t.Errorf("only %d pairs of foes", pairs)
	}
}
