package delta_test

import (
	"slices"
	"testing"

	"lexprior/api"
	"lexprior/delta"
	"lexprior/theory"
)

// wantPart: what a change of these literals reckons is the cone, and little else: at most one literal for each of the marks that there are, with at most two rules; it may be a theory, whose marks are those of the whole one.
func wantPart(t testing.TB, p pair, changed []int) {
	t.Helper()
	part, facts, cone := delta.Part(p.engine, changed)
	want, errno := theory.Cone(p.model.theory, changed)
	if errno != api.OK || !slices.Equal(cone, want) {
		t.Fatalf("P19.4: of %+v and %d: the cone is %d, want %d", p.model.theory, changed, cone, want)
	}
	if errno, at := theory.Check(part); errno != api.OK {
		t.Fatalf("G5: of %+v and %d: Check(%+v): %d, %d", p.model.theory, changed, part, errno, at)
	}
	rules := 0
	for _, one := range p.model.theory.Rules {
		if slices.Contains(cone, one.Head) {
			rules++
		}
	}
	if part.Lits > len(cone)+6 || len(part.Rules) > rules+5 || part.Lits > p.model.theory.Lits || len(part.Rules) > len(p.model.theory.Rules) {
		t.Errorf("G5: of %+v and %d: %+v is more than the cone %d", p.model.theory, changed, part, cone)
	}
	said := solved(t, part, facts)
	for place, lit := range cone {
		if said[place] != p.model.marks[lit] {
			t.Errorf("G5: of %+v and %d, by the facts %d: of %d %d, want %d", p.model.theory, changed, p.model.facts, lit, said[place], p.model.marks[lit])
		}
	}
}

func TestParts(t *testing.T) {
	t.Parallel()
	m := newMaker(209)
	for range 1500 {
		p := newPair(t, m.any())
		p.step(t, set(m.some(5, p.model.theory.Lits)...))
		wantPart(t, p, nil)
		wantPart(t, p, upTo(p.model.theory.Lits))
		for lit := range p.model.theory.Lits {
			wantPart(t, p, lits(lit))
		}
		wantPart(t, p, m.some(4, p.model.theory.Lits))
		if t.Failed() {
			return
		}
	}
}
