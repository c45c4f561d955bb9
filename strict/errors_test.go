package strict_test

import (
	"math"
	"slices"
	"testing"

	"lexprior/api"
	"lexprior/strict"
	"lexprior/theory"
)

// town has all that a theory can have.
func town() api.Theory {
	t := plain(6, rule(1, 0), weak(api.Defeasible, 2, 1), rule(3, 3), weak(api.Defeater, 4), rule(5), rule(4, 1, 5))
	enemies(&t, 1, 2)
	enemies(&t, 3, 4, 5)
	t.Beats = [][]int{{1}, {}, {3, 4}, {}, {5}, {}}
	return t
}

// badTheory is what theory.Check refuses a theory for, and one.
type badTheory struct {
	what   string
	theory api.Theory
	errno  api.Errno
}

func badTheories() []badTheory {
	var all []badTheory
	add := func(what string, errno api.Errno, change func(t *api.Theory)) {
		x := town()
		change(&x)
		all = append(all, badTheory{what, x, errno})
	}
	for _, lits := range []int{-1, 4097, math.MinInt, math.MaxInt} {
		add("Lits", api.ErrLits, func(t *api.Theory) { t.Lits = lits })
	}
	add("fewer lists of foes", api.ErrFoe, func(t *api.Theory) { t.Foes = t.Foes[:5] })
	add("more lists of foes", api.ErrFoe, func(t *api.Theory) { t.Foes = append(t.Foes, nil) })
	add("a literal fewer", api.ErrFoe, func(t *api.Theory) { t.Lits-- })
	add("its own foe", api.ErrFoe, func(t *api.Theory) { t.Foes[0] = lits(0) })
	add("a foe that does not return it", api.ErrFoe, func(t *api.Theory) { t.Foes[0] = lits(1) })
	add("a foe that there is not", api.ErrFoe, func(t *api.Theory) { t.Foes[0] = lits(6) })
	add("foes that fall", api.ErrFoe, func(t *api.Theory) { t.Foes[3] = lits(5, 4) })
	add("too many rules", api.ErrGround, func(t *api.Theory) { t.Rules = slices.Repeat([]api.Rule{rule(0)}, 4097) })
	add("no kind", api.ErrRule, func(t *api.Theory) { t.Rules[0].Kind = 0 })
	add("another kind", api.ErrRule, func(t *api.Theory) { t.Rules[0].Kind = 4 })
	add("a head below 0", api.ErrRule, func(t *api.Theory) { t.Rules[0].Head = -1 })
	add("a head that there is not", api.ErrRule, func(t *api.Theory) { t.Rules[0].Head = 6 })
	add("a literal twice in a body", api.ErrRule, func(t *api.Theory) { t.Rules[0].Body = lits(0, 0) })
	add("a body that falls", api.ErrRule, func(t *api.Theory) { t.Rules[0].Body = lits(1, 0) })
	add("a body with what is no literal", api.ErrRule, func(t *api.Theory) { t.Rules[5].Body = lits(6) })
	add("a body with what is below 0", api.ErrRule, func(t *api.Theory) { t.Rules[5].Body = lits(-1) })
	add("a body that is too long", api.ErrRule, func(t *api.Theory) { t.Lits, t.Foes, t.Rules[5].Body = 17, make([][]int, 17), upTo(17) })
	add("too many pairs", api.ErrPairs, func(t *api.Theory) {
		t.Rules = slices.Concat(slices.Repeat([]api.Rule{rule(1)}, 300), slices.Repeat([]api.Rule{rule(2)}, 300))
		t.Beats = make([][]int, 600)
	})
	add("fewer lists of beaten rules", api.ErrBeat, func(t *api.Theory) { t.Beats = nil })
	add("more lists of beaten rules", api.ErrBeat, func(t *api.Theory) { t.Beats = append(t.Beats, nil) })
	add("one that is no foe's is beaten", api.ErrBeat, func(t *api.Theory) { t.Beats[1] = lits(4) })
	add("a rule that there is not is beaten", api.ErrBeat, func(t *api.Theory) { t.Beats[1] = lits(6) })
	add("a circle of two", api.ErrPriorityCycle, func(t *api.Theory) { t.Beats[1] = lits(0) })
	return all
}

// badFacts: of a theory of so many literals.
func badFacts(lits int) [][]int {
	return [][]int{{-1}, {lits}, {0, 0}, {1, 0}, {0, 1, 2, 2}, {0, lits}, {-1, 0}, {math.MaxInt}, {math.MinInt}, append(upTo(lits), lits)}
}

func badLits(lits int) []int {
	return []int{-1, lits, lits + 1, 4096, math.MinInt, math.MaxInt}
}

// TestBadTheories: whatever the facts and the literal are, the theory's fault is told.
func TestBadTheories(t *testing.T) {
	for _, bad := range badTheories() {
		if errno, _ := theory.Check(bad.theory); errno != bad.errno {
			t.Fatalf("%s: Check: %d, want %d", bad.what, errno, bad.errno)
		}
		for _, facts := range append(badFacts(6), nil, lits(0), lits(0, 1, 5)) {
			wantRefused(t, bad.theory, facts, bad.errno)
			for _, lit := range append(badLits(6), upTo(6)...) {
				wantLitRefused(t, bad.theory, facts, lit, bad.errno)
			}
		}
	}
}

// TestBadFacts: whatever the literal is.
func TestBadFacts(t *testing.T) {
	for _, facts := range badFacts(6) {
		wantRefused(t, town(), facts, api.ErrFact)
		for _, lit := range append(badLits(6), upTo(6)...) {
			wantLitRefused(t, town(), facts, lit, api.ErrFact)
		}
	}
	wantRefused(t, api.Theory{}, lits(0), api.ErrFact)
	wantLitRefused(t, api.Theory{}, lits(0), 0, api.ErrFact)
}

func TestBadLits(t *testing.T) {
	for _, facts := range [][]int{nil, {}, {0}, {5}, upTo(6)} {
		for _, lit := range badLits(6) {
			wantLitRefused(t, town(), facts, lit, api.ErrLit)
		}
		for lit := range 6 {
			for _, call := range []func(api.Theory, []int, int) ([]int, api.Errno){strict.Loop, strict.Least} {
				if _, errno := call(town(), facts, lit); errno != api.OK && errno != api.ErrNone {
					t.Errorf("P14.1: of the literal %d and the facts %d: %d", lit, facts, errno)
				}
			}
		}
	}
	for _, lit := range badLits(0) {
		wantLitRefused(t, api.Theory{}, nil, lit, api.ErrLit)
		wantLitRefused(t, api.Theory{}, []int{}, lit, api.ErrLit)
	}
	wantLitRefused(t, api.Theory{}, nil, 0, api.ErrLit)
}

// TestTown: what is not refused is answered.
func TestTown(t *testing.T) {
	wantTags(t, town(), lits(0), lits(0, 1, 4, 5), lits(2), lits(3))
	wantHeights(t, town(), lits(0), lits(1, 2, 1, 0, 3, 1))
	wantLoop(t, town(), lits(0), 3, lits(3, 3), api.OK)
	wantClash(t, town(), lits(0), pair(4, 5))
	wantClash(t, town(), lits(0, 2, 3), pair(1, 2), pair(3, 4), pair(3, 5), pair(4, 5))
	wantLeast(t, town(), lits(0), 4, lits(0), api.OK)
}
