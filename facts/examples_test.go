package facts_test

import (
	"testing"

	"lexprior/api"
	"lexprior/facts"
	"lexprior/fast"
	"lexprior/ground"
	"lexprior/prior"
	"lexprior/syntax"
)

// TestExampleOfIncome: the chapter's first.
func TestExampleOfIncome(t *testing.T) {
	a := atom(income, ann)
	s := newStore(t, groundOf(3, guard(api.OpLess, -10000, times(1, a))))
	wantFacts(t, s)
	wantPut(t, s, a, 9000, []int{3}, nil, api.OK)
	wantFacts(t, s, 3)
	wantPut(t, s, a, 10000, nil, []int{3}, api.OK)
	wantTake(t, s, a, nil, nil, api.OK)
	wantFacts(t, s)
}

// TestExampleWithoutTerms: the chapter's second.
func TestExampleWithoutTerms(t *testing.T) {
	s := newStore(t, groundOf(0, guard(api.OpMost, 0)))
	wantFacts(t, s, 0)
	wantHolds(t, guard(api.OpMost, 0), nil, true)
}

// houseOf: a statute's ground, with its superiority.
func houseOf(t *testing.T, text string) (api.Statute, api.Ground) {
	t.Helper()
	s, errno, at := syntax.Parse(text)
	if errno != api.OK {
		t.Fatalf("Parse: %d, %d", errno, at)
	}
	g, errno, at := ground.Ground(s)
	if errno != api.OK {
		t.Fatalf("Ground: %d, %d", errno, at)
	}
	g, errno, _ = prior.Build(s, g)
	if errno != api.OK {
		t.Fatalf("Build: %d", errno)
	}
	return s, g
}

// names: of some literals.
func names(t *testing.T, s api.Statute, g api.Ground, list []int) []string {
	t.Helper()
	var all []string
	for _, lit := range list {
		name, errno := ground.Lit(s, g, lit)
		if errno != api.OK {
			t.Fatalf("Lit(%d): %d", lit, errno)
		}
		all = append(all, name)
	}
	return all
}

// TestStatute: from a text on to what is awarded: what a store says to be facts is what the engine takes.
func TestStatute(t *testing.T) {
	statute, g := houseOf(t, `kind person. member ann : person. pred old(person). number income(person). number rent(person).
amount help(person) : 10, 20. source act rank 2. source decree rank 1.
rule a of act at 2001-01-01 : old(X), {income(X) < 100} => help(X) = 20.
rule b of decree at 2009-01-01 : {income(X) - 2*rent(X) >= 0} => help(X) = 10.`)
	s := newStore(t, g)
	award := func(want ...string) {
		t.Helper()
		won, errno := fast.Set(g.Theory, s.Facts(), api.PlusPartial)
		if errno != api.OK {
			t.Fatalf("Set: %d", errno)
		}
		if got := names(t, statute, g, won); told(got) != told(want) {
			t.Errorf("what holds: %q, want %q", got, want)
		}
	}
	old, there := ground.Number(statute, g, api.Lit{Atom: atom(0, ann)})
	if !there {
		t.Fatal("there is no old(ann)")
	}
	incomeOf, rentOf := atom(1, ann), atom(2, ann)
	award()
	wantAdd(t, s, old, api.OK)
	award("old(ann)")
	put(t, s, incomeOf, 9000)
	award("old(ann)", "help(ann) = 20", "{income(ann) < 100}")
	put(t, s, rentOf, 4000)
	award("old(ann)", "help(ann) = 20", "{income(ann) < 100}", "{income(ann) - 2*rent(ann) >= 0}")
	put(t, s, incomeOf, 10000)
	award("old(ann)", "help(ann) = 10", "{income(ann) - 2*rent(ann) >= 0}")
	put(t, s, rentOf, 5001)
	award("old(ann)")
	wantRemove(t, s, old, api.OK)
	put(t, s, rentOf, 5000)
	award("help(ann) = 10", "{income(ann) - 2*rent(ann) >= 0}")
	wantNumbers(t, s, number(incomeOf, 10000), number(rentOf, 5000))
}

func put(t *testing.T, s *facts.Store, a api.Atom, v api.Money) {
	t.Helper()
	if _, _, errno := s.Put(a, v); errno != api.OK {
		t.Fatalf("P18.2: Put(%v, %d): %d", a, v, errno)
	}
}
