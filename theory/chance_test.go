package theory_test

import (
	"slices"
	"testing"

	"lexprior/api"
)

// tally counts answers by their error, so that a test can tell that it saw enough of each.
type tally map[api.Errno]int

func (y tally) want(t testing.TB, what string, least int, all ...api.Errno) {
	t.Helper()
	for _, errno := range all {
		if y[errno] < least {
			t.Errorf("only %d times %s: %d", y[errno], what, errno)
		}
	}
}

func TestChecksByChance(t *testing.T) {
	t.Parallel()
	m := newMaker(121)
	seen := tally{}
	for range 60000 {
		x := m.theory(7, 7)
		for range pick(m, 0, 4, 8) {
			m.turn(&x)
		}
		for range pick(m, 0, 1, 2) {
			m.spoil(&x)
		}
		errno, at := modelCheck(x)
		wantCheck(t, "by chance", x, errno, at)
		if errno != api.OK {
			wantRefused(t, x, errno)
		}
		if t.Failed() {
			return
		}
		seen[errno]++
	}
	seen.want(t, "Check", 1000, api.OK, api.ErrLits, api.ErrFoe, api.ErrRule, api.ErrBeat, api.ErrPriorityCycle)
}

func TestBytesByChance(t *testing.T) {
	t.Parallel()
	m := newMaker(122)
	seen := tally{}
	for range 60000 {
		x := m.theory(6, 6)
		for range m.chance.Intn(3) {
			m.turn(&x)
		}
		b := modelBytes(x)
		for range m.chance.Intn(3) {
			b = m.spoilBytes(append(b, 0)[:len(b)+oneIf(m.oneIn(9))])
			if len(b) == 0 {
				break
			}
		}
		want, errno, at := modelDecode(b)
		wantDecode(t, "by chance", b, want, errno, at)
		if errno == api.OK {
			wantEncode(t, want, b, api.OK)
		}
		if t.Failed() {
			return
		}
		seen[errno]++
	}
	seen.want(t, "Decode", 300, api.OK, api.ErrShort, api.ErrArg, api.ErrNumber, api.ErrCount, api.ErrFoe, api.ErrRule, api.ErrBeat, api.ErrTail, api.ErrPriorityCycle)
}

// TestAsksByChance: of theories that may be, all calls.
func TestAsksByChance(t *testing.T) {
	t.Parallel()
	m := newMaker(123)
	deepest, largest := 0, 0
	for range 8000 {
		x := m.theory(10, pick(m, 3, 9, 12))
		premises := 0
		for lit := range x.Lits {
			wantFor(t, x, lit, modelFor(x, lit), api.OK)
		}
		for _, rule := range x.Rules {
			premises += len(rule.Body)
		}
		wantSize(t, x, x.Lits, premises, modelPairs(x), api.OK)
		lits := m.some(4, x.Lits)
		cone := modelCone(x, lits)
		wantCone(t, x, lits, cone, api.OK)
		slices.Reverse(lits)
		wantCone(t, x, append(lits, lits...), cone, api.OK)
		lits = m.some(9, x.Lits)
		part, rules := modelPart(x, lits)
		wantPart(t, x, lits, part, rules, api.OK)
		layers, many := modelLayers(x)
		wantLayers(t, x, layers, many, api.OK)
		if t.Failed() {
			return
		}
		deepest = max(deepest, many)
		largest = max(largest, len(rules))
	}
	if deepest < 5 || largest < 5 {
		t.Errorf("only %d layers and parts of %d rules were seen", deepest, largest)
	}
}

// TestLargeTheoriesByChance: whose numbers have two bytes.
func TestLargeTheoriesByChance(t *testing.T) {
	t.Parallel()
	m := newMaker(124)
	for range 100 {
		x := m.theory(400, 300)
		wantCheck(t, "by chance", x, api.OK, 0)
		wantRound(t, x)
	}
}
