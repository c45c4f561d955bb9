package derive_test

import (
	"math"
	"slices"
	"testing"

	"lexprior/api"
	"lexprior/derive"
	"lexprior/theory"
)

// village has all that a theory can have.
func village() api.Theory {
	return from("6; 0 -> 1; 1 => 2; 3 -> 3; ~> 4; -> 5; 1 5 => 4; 1 # 2; 3 # 4 # 5; 0 > 1; 2 > 3; 2 > 4; 4 > 5")
}

// badTheory is what theory.Check refuses a theory for, and one.
type badTheory struct {
	what   string
	theory api.Theory
	errno  api.Errno
}

func badTheories() []badTheory {
	var all []badTheory
	add := func(what string, errno api.Errno, change func(t *api.Theory)) {
		x := village()
		change(&x)
		all = append(all, badTheory{what, x, errno})
	}
	for _, lits := range []int{-1, 4097, math.MinInt, math.MaxInt} {
		add("Lits", api.ErrLits, func(t *api.Theory) { t.Lits = lits })
	}
	add("fewer lists of foes", api.ErrFoe, func(t *api.Theory) { t.Foes = t.Foes[:5] })
	add("more lists of foes", api.ErrFoe, func(t *api.Theory) { t.Foes = append(t.Foes, nil) })
	add("a literal fewer", api.ErrFoe, func(t *api.Theory) { t.Lits-- })
	add("its own foe", api.ErrFoe, func(t *api.Theory) { t.Foes[0] = lits(0) })
	add("a foe that does not return it", api.ErrFoe, func(t *api.Theory) { t.Foes[0] = lits(1) })
	add("a foe that there is not", api.ErrFoe, func(t *api.Theory) { t.Foes[0] = lits(6) })
	add("foes that fall", api.ErrFoe, func(t *api.Theory) { t.Foes[3] = lits(5, 4) })
	add("too many rules", api.ErrGround, func(t *api.Theory) { t.Rules = slices.Repeat(t.Rules[:1], 4097) })
	add("no kind", api.ErrRule, func(t *api.Theory) { t.Rules[0].Kind = 0 })
	add("another kind", api.ErrRule, func(t *api.Theory) { t.Rules[0].Kind = 4 })
	add("a head below 0", api.ErrRule, func(t *api.Theory) { t.Rules[0].Head = -1 })
	add("a head that there is not", api.ErrRule, func(t *api.Theory) { t.Rules[0].Head = 6 })
	add("a literal twice in a body", api.ErrRule, func(t *api.Theory) { t.Rules[0].Body = lits(0, 0) })
	add("a body that falls", api.ErrRule, func(t *api.Theory) { t.Rules[0].Body = lits(1, 0) })
	add("a body with what is no literal", api.ErrRule, func(t *api.Theory) { t.Rules[5].Body = lits(6) })
	add("a body with what is below 0", api.ErrRule, func(t *api.Theory) { t.Rules[5].Body = lits(-1) })
	add("a body that is too long", api.ErrRule, func(t *api.Theory) { t.Lits, t.Foes, t.Rules[5].Body = 17, make([][]int, 17), upTo(17) })
	add("too many pairs", api.ErrPairs, func(t *api.Theory) {
		t.Rules = slices.Repeat(t.Rules[:2], 300)
		t.Beats = make([][]int, 600)
	})
	add("fewer lists of beaten rules", api.ErrBeat, func(t *api.Theory) { t.Beats = nil })
	add("more lists of beaten rules", api.ErrBeat, func(t *api.Theory) { t.Beats = append(t.Beats, nil) })
	add("one that is no foe's is beaten", api.ErrBeat, func(t *api.Theory) { t.Beats[1] = lits(4) })
	add("a rule that there is not is beaten", api.ErrBeat, func(t *api.Theory) { t.Beats[1] = lits(6) })
	add("a circle of two", api.ErrPriorityCycle, func(t *api.Theory) { t.Beats[1] = lits(0) })
	return all
}

// badFacts: of a theory of so many literals.
func badFacts(lits int) [][]int {
	return [][]int{{-1}, {lits}, {0, 0}, {1, 0}, {0, 1, 2, 2}, {0, lits}, {-1, 0}, {math.MaxInt}, {math.MinInt}, append(upTo(lits), lits)}
}

func badTags() []api.Tag {
	return []api.Tag{0, -1, 5, 8, 16, math.MinInt, math.MaxInt, 1 << 32, 1<<32 + 1, 257}
}

func badLits(lits int) []int {
	return []int{-1, lits, lits + 1, 4096, math.MinInt, math.MaxInt, 1 << 32}
}

// someSteps: lists of steps: of none, derivations, what is none, and one that is too long.
func someSteps() [][]api.Step {
	return [][]api.Step{
		nil, {}, steps("+D 0 fact"), steps("+D 0 fact; +D 1 rule 0; +d 1 strict"), steps("-D 2 none"), steps("-d 2 none"), {{}}, saying(api.Pair{A: -1, B: 7}),
		make([]api.Step, api.MaxSteps+1),
	}
}

// wantAllCallsRefuse: but for Needs, which has no facts.
func wantAllCallsRefuse(t *testing.T, x api.Theory, facts []int, errno api.Errno) {
	t.Helper()
	wantAllRefused(t, x, facts, errno)
	for _, l := range someSteps() {
		wantFault(t, x, facts, l, errno, 0)
		for _, s := range append(l[:min(len(l), 1)], step("+D 0 fact"), step("-D 2 none"), step("-D 2 none 7"), api.Step{Lit: -1}) {
			if follows, got := derive.Follows(x, facts, l, s); got != errno || follows {
				t.Errorf("P20.1: Follows(%s, %v, %s, %s): %t, %d, want false, %d", told(x), facts, told(l), told(s), follows, got, errno)
			}
		}
	}
	for _, lit := range append(badLits(6), 0, 2, 5) {
		for _, tag := range append(badTags(), tags...) {
			wantDeriveRefused(t, x, facts, lit, tag, errno)
		}
	}
}

// TestBadTheories: whatever else is asked, the theory's fault is told, without its number.
func TestBadTheories(t *testing.T) {
	for _, bad := range badTheories() {
		if errno, _ := theory.Check(bad.theory); errno != bad.errno {
			t.Fatalf("%s: Check: %d, want %d", bad.what, errno, bad.errno)
		}
		for _, facts := range append(badFacts(6), nil, lits(0), lits(0, 1, 5)) {
			wantAllCallsRefuse(t, bad.theory, facts, bad.errno)
		}
		for _, l := range someSteps() {
			for _, s := range append(l[:min(len(l), 1)], step("+d 1 strict"), step("+d 0 strict 1")) {
				wantNeedsRefused(t, bad.theory, s, bad.errno)
			}
		}
	}
}

// TestBadFacts: whatever else is asked.
func TestBadFacts(t *testing.T) {
	for _, facts := range badFacts(6) {
		wantAllCallsRefuse(t, village(), facts, api.ErrFact)
	}
	wantAllCallsRefuse(t, api.Theory{}, lits(0), api.ErrFact)
	wantAllCallsRefuse(t, api.Theory{}, lits(-1), api.ErrFact)
}

// TestBadArguments: no literal, no tag; of both the literal is told; and then that it has not the tag.
func TestBadArguments(t *testing.T) {
	for _, facts := range [][]int{nil, {}, {0}, upTo(6)} {
		for _, lit := range badLits(6) {
			for _, tag := range append(badTags(), tags...) {
				wantDeriveRefused(t, village(), facts, lit, tag, api.ErrLit)
			}
		}
		for _, tag := range badTags() {
			for lit := range 6 {
				wantDeriveRefused(t, village(), facts, lit, tag, api.ErrArg)
			}
		}
	}
	for _, tag := range append(badTags(), tags...) {
		for _, lit := range append(badLits(0), 0) {
			wantDeriveRefused(t, api.Theory{}, nil, lit, tag, api.ErrLit)
			wantDeriveRefused(t, api.Theory{}, []int{}, lit, tag, api.ErrLit)
		}
	}
}
