package strict_test

import (
	"testing"

	"lexprior/api"
	"lexprior/theory"
)

// tally counts what a test saw, so that it can tell that it saw enough of it.
type tally map[string]int

func (y tally) want(t testing.TB, least int, all ...string) {
	t.Helper()
	for _, what := range all {
		if y[what] < least {
			t.Errorf("only %d times: %s", y[what], what)
		}
	}
}

// wantAsModel: all calls of a theory and facts that may be, of each literal.
func wantAsModel(t testing.TB, x api.Theory, facts []int, seen tally) {
	t.Helper()
	m := newModel(x, facts)
	plus, minus, neither, heights := m.lists()
	wantTags(t, x, facts, plus, minus, neither)
	wantHeights(t, x, facts, heights)
	clash := m.clash()
	wantClash(t, x, facts, clash...)
	seen["clashes"] += len(clash)
	for lit := range x.Lits {
		loop, errno := m.loop(lit)
		wantLoop(t, x, facts, lit, loop, errno)
		least, errno := m.least(lit)
		wantLeast(t, x, facts, lit, least, errno)
		m.count(lit, loop, least, seen)
	}
}

func (m *model) count(lit int, loop, least []int, seen tally) {
	switch {
	case m.plus[lit] > 3:
		seen["+D behind round 3"]++
	case m.minus[lit] > 3:
		seen["-D behind round 3"]++
	}
	if len(loop) > 0 && loop[0] != loop[len(loop)-1] {
		seen["led into a circle"]++
	}
	if len(loop) > 4 {
		seen["long loops"]++
	}
	if len(least) > 2 {
		seen["rests on several"]++
	}
	if rules := m.rules(lit); m.plus[lit] > 1 && len(rules) > 1 {
		for _, a := range m.theory.Rules[rules[0]].Body {
			if m.plus[a] >= m.plus[lit] {
				seen["a later rule ends the wait"]++
				break
			}
		}
	}
}

func TestByChance(t *testing.T) {
	t.Parallel()
	m := newMaker(141)
	seen := tally{}
	for range 20000 {
		x := pick(m, m.theory, m.straight, m.row, m.row)(pick(m, 5, 12, 20), pick(m, 4, 20, 40))
		facts := m.some(pick(m, 0, 2, 5, 9), x.Lits)
		wantAsModel(t, x, facts, seen)
		if t.Failed() {
			return
		}
	}
	seen.want(t, 500, "clashes", "+D behind round 3", "-D behind round 3", "led into a circle", "long loops", "rests on several", "a later rule ends the wait")
}

// TestLargerByChance: with long chains.
func TestLargerByChance(t *testing.T) {
	t.Parallel()
	m := newMaker(142)
	for range 40 {
		x := pick(m, m.theory, m.straight, m.row)(150, 200)
		wantAsModel(t, x, m.some(20, x.Lits), tally{})
		if t.Failed() {
			return
		}
	}
}

// TestSpoiltByChance: the theory's fault goes ahead of the facts', and that of the literal's.
func TestSpoiltByChance(t *testing.T) {
	t.Parallel()
	m := newMaker(143)
	seen := tally{}
	for range 20000 {
		x := m.theory(6, 8)
		facts, lit := m.some(4, x.Lits), m.odd(x.Lits)
		if m.oneIn(2) {
			m.spoil(&x)
		}
		if m.oneIn(2) {
			facts = m.change(facts, x.Lits)
		}
		errno, _ := theory.Check(x)
		if errno == api.OK {
			errno = theory.CheckFacts(x, facts)
		}
		switch {
		case errno != api.OK:
			wantRefused(t, x, facts, errno)
			wantLitRefused(t, x, facts, lit, errno)
		case lit < 0 || lit >= x.Lits:
			wantLitRefused(t, x, facts, lit, api.ErrLit)
		default:
			wantAsModel(t, x, facts, tally{})
		}
		if t.Failed() {
			return
		}
		seen[told(errno)]++
	}
	for _, errno := range []api.Errno{api.OK, api.ErrLits, api.ErrFoe, api.ErrRule, api.ErrBeat, api.ErrFact} {
		seen.want(t, 200, told(errno))
	}
}
