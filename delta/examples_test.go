package delta_test

import (
	"slices"
	"testing"

	"lexprior/api"
	"lexprior/facts"
	"lexprior/ground"
	"lexprior/prior"
	"lexprior/syntax"
)

// TestExample: the chapter's.
func TestExample(t *testing.T) {
	e := newEngine(t, from("3; 0 => 1"))
	wantState(t, e, nil, many(3, lost))
	wantTouched(t, e)
	changes, errno := e.Add(0)
	if want := []api.Change{{Lit: 0, Was: 10, Now: 5}, {Lit: 1, Was: 10, Now: 6}}; errno != api.OK || !slices.Equal(changes, want) {
		t.Errorf("P19.1: Add(0): %v, %d, want %v", changes, errno, want)
	}
	wantState(t, e, lits(0), marks(held, won, lost))
	wantTouched(t, e, 0, 1)
	wantRefused(t, e, add(0), api.ErrFact)
	changes, errno = e.Drop(0)
	if want := []api.Change{{Lit: 0, Was: 5, Now: 10}, {Lit: 1, Was: 6, Now: 10}}; errno != api.OK || !slices.Equal(changes, want) {
		t.Errorf("P19.1: Drop(0): %v, %d, want %v", changes, errno, want)
	}
	wantState(t, e, nil, many(3, lost))
	wantTouched(t, e, 0, 1)
}

// house: a statute's theory with its superiority, and the numbers of its literals by their texts.
func house(t *testing.T, text string) (api.Ground, map[string]int) {
	t.Helper()
	s, errno, at := syntax.Parse(text)
	if errno != api.OK {
		t.Fatalf("Parse: %d, %d", errno, at)
	}
	g, errno, at := ground.Ground(s)
	if errno != api.OK {
		t.Fatalf("Ground: %d, %d", errno, at)
	}
	g, errno, _ = prior.Build(s, g)
	if errno != api.OK {
		t.Fatalf("Build: %d", errno)
	}
	names := map[string]int{}
	for lit := range g.Lits {
		name, errno := ground.Lit(s, g, lit)
		if errno != api.OK {
			t.Fatalf("Lit(%d): %d", lit, errno)
		}
		names[name] = lit
	}
	return g, names
}

// TestStatutes: the document's first two examples, as anna becomes old and rich; ben, on whom nothing of it hangs, is not touched.
func TestStatutes(t *testing.T) {
	text := `kind person. member anna, ben : person. pred old(person). pred rich(person). amount help(person) : 10, 20. source act rank 2. source decree rank 1.
rule a of act at 2001-01-01 : old(X) => help(X) = 20. rule b of decree at 2009-01-01 : rich(X) => help(X) = 10.`
	for exception, winner := range map[string]string{"": "help(anna) = 20", " exception b to a.": "help(anna) = 10"} {
		g, names := house(t, text+exception)
		e := newEngine(t, g.Theory)
		has := func(want string, all ...string) {
			t.Helper()
			for _, name := range all {
				if got := e.Marks()[names[name]]; got != marks(want)[0] {
					t.Errorf("%q: %s has %d, want %s", exception, name, got, want)
				}
			}
		}
		e.Add(names["old(anna)"])
		has(won, "help(anna) = 20")
		has(lost, "help(anna) = 10", "help(ben) = 20")
		e.Add(names["rich(anna)"])
		has(won, winner)
		for _, name := range []string{"old(ben)", "rich(ben)", "help(ben) = 10", "help(ben) = 20"} {
			if slices.Contains(e.Touched(), names[name]) {
				t.Errorf("P19.4: %q: %s was touched", exception, name)
			}
		}
		e.Drop(names["old(anna)"])
		has(won, "help(anna) = 10")
		has(lost, "help(anna) = 20")
	}
}

// TestStore: what comes and goes in a store (18) is handed on.
func TestStore(t *testing.T) {
	g, names := house(t, `kind person. member anna : person. number income(person). amount help(person) : 10, 20. source act rank 2.
rule a of act at 2001-01-01 : {income(X) < 100} => help(X) = 20. rule b of act at 2001-01-01 : {income(X) >= 100} => help(X) = 10.`)
	e := newEngine(t, g.Theory)
	s, errno := facts.New(g)
	if errno != api.OK {
		t.Fatalf("New: %d", errno)
	}
	put := func(value api.Money, want string) {
		t.Helper()
		came, went, errno := s.Put(api.Atom{Pred: 0, Args: lits(0)}, value)
		if errno != api.OK {
			t.Fatalf("Put: %d", errno)
		}
		for _, lit := range went {
			e.Drop(lit)
		}
		for _, lit := range came {
			e.Add(lit)
		}
		wantState(t, e, s.Facts(), solved(t, g.Theory, s.Facts()))
		if got := e.Marks()[names[want]]; got != marks(won)[0] {
			t.Errorf("by %d: %s has %d", value, want, got)
		}
	}
	put(9000, "help(anna) = 20")
	put(9999, "help(anna) = 20")
	put(10000, "help(anna) = 10")
	put(0, "help(anna) = 20")
}
