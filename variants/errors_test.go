package variants_test

import (
	"math"
	"slices"
	"testing"

	"lexprior/api"
	"lexprior/theory"
)

// town has all that a theory can have.
func town() api.Theory {
	return from("6; 0 -> 1; 1 => 2; 3 -> 3; ~> 4; -> 5; 1 5 => 4; 1 # 2; 3 # 4 # 5; 0 > 1; 2 > 3; 2 > 4; 4 > 5")
}

// badTheory is what theory.Check refuses a theory for, and one.
type badTheory struct {
	what   string
	theory api.Theory
	errno  api.Errno
}

func badTheories() []badTheory {
	var all []badTheory
	add := func(what string, errno api.Errno, change func(t *api.Theory)) {
		x := town()
		change(&x)
		all = append(all, badTheory{what, x, errno})
	}
	for _, lits := range []int{-1, 4097, math.MinInt, math.MaxInt} {
		add("Lits", api.ErrLits, func(t *api.Theory) { t.Lits = lits })
	}
	add("fewer lists of foes", api.ErrFoe, func(t *api.Theory) { t.Foes = t.Foes[:5] })
	add("more lists of foes", api.ErrFoe, func(t *api.Theory) { t.Foes = append(t.Foes, nil) })
	add("a literal fewer", api.ErrFoe, func(t *api.Theory) { t.Lits-- })
	add("its own foe", api.ErrFoe, func(t *api.Theory) { t.Foes[0] = lits(0) })
	add("a foe that does not return it", api.ErrFoe, func(t *api.Theory) { t.Foes[0] = lits(1) })
	add("a foe that there is not", api.ErrFoe, func(t *api.Theory) { t.Foes[0] = lits(6) })
	add("foes that fall", api.ErrFoe, func(t *api.Theory) { t.Foes[3] = lits(5, 4) })
	add("too many rules", api.ErrGround, func(t *api.Theory) { t.Rules = slices.Repeat(t.Rules[:1], 4097) })
	add("no kind", api.ErrRule, func(t *api.Theory) { t.Rules[0].Kind = 0 })
	add("another kind", api.ErrRule, func(t *api.Theory) { t.Rules[0].Kind = 4 })
	add("a head below 0", api.ErrRule, func(t *api.Theory) { t.Rules[0].Head = -1 })
	add("a head that there is not", api.ErrRule, func(t *api.Theory) { t.Rules[0].Head = 6 })
	add("a literal twice in a body", api.ErrRule, func(t *api.Theory) { t.Rules[0].Body = lits(0, 0) })
	add("a body that falls", api.ErrRule, func(t *api.Theory) { t.Rules[0].Body = lits(1, 0) })
	add("a body with what is no literal", api.ErrRule, func(t *api.Theory) { t.Rules[5].Body = lits(6) })
	add("a body with what is below 0", api.ErrRule, func(t *api.Theory) { t.Rules[5].Body = lits(-1) })
	add("a body that is too long", api.ErrRule, func(t *api.Theory) { t.Lits, t.Foes, t.Rules[5].Body = 17, make([][]int, 17), upTo(17) })
	add("too many pairs", api.ErrPairs, func(t *api.Theory) {
		t.Rules = slices.Repeat(t.Rules[:2], 300)
		t.Beats = make([][]int, 600)
	})
	add("fewer lists of beaten rules", api.ErrBeat, func(t *api.Theory) { t.Beats = nil })
	add("more lists of beaten rules", api.ErrBeat, func(t *api.Theory) { t.Beats = append(t.Beats, nil) })
	add("one that is no foe's is beaten", api.ErrBeat, func(t *api.Theory) { t.Beats[1] = lits(4) })
	add("a rule that there is not is beaten", api.ErrBeat, func(t *api.Theory) { t.Beats[1] = lits(6) })
	add("a circle of two", api.ErrPriorityCycle, func(t *api.Theory) { t.Beats[1] = lits(0) })
	return all
}

// badFacts: of a theory of so many literals.
func badFacts(lits int) [][]int {
	return [][]int{{-1}, {lits}, {0, 0}, {1, 0}, {0, 1, 2, 2}, {0, lits}, {-1, 0}, {math.MaxInt}, {math.MinInt}, append(upTo(lits), lits)}
}

// TestBadTheories: whatever the facts are, the theory's fault is told.
func TestBadTheories(t *testing.T) {
	for _, bad := range badTheories() {
		if errno, _ := theory.Check(bad.theory); errno != bad.errno {
			t.Fatalf("%s: Check: %d, want %d", bad.what, errno, bad.errno)
		}
		for _, facts := range append(badFacts(6), nil, []int{}, []int{0}, []int{0, 1, 5}) {
			wantRefused(t, bad.theory, facts, bad.errno)
		}
	}
}

// TestTwoFaults: of a theory the one that theory.Check names first is told.
func TestTwoFaults(t *testing.T) {
	for _, bad := range badTheories() {
		for _, worse := range badTheories() {
			x := bad.theory
			x.Foes, x.Beats = worse.theory.Foes, worse.theory.Beats
			errno, _ := theory.Check(x)
			if errno != api.OK {
				wantRefused(t, x, lits(1, 0), errno)
			}
		}
	}
}

func TestBadFacts(t *testing.T) {
	for _, facts := range badFacts(6) {
		wantRefused(t, town(), facts, api.ErrFact)
	}
	wantRefused(t, api.Theory{}, lits(0), api.ErrFact)
	wantRefused(t, api.Theory{}, lits(-1), api.ErrFact)
}

// TestTown: what is not refused is answered.
func TestTown(t *testing.T) {
	wantLogics(t, town(), lits(0), marks(held, held, lost, none, lost, held), marks(held, held, lost, none, lost, held))
	wantLogics(t, town(), nil, marks(lost, lost, lost, none, lost, held), marks(lost, lost, lost, none, lost, held))
}
