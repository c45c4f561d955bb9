package naive_test

import (
	"math"
	"slices"
	"testing"

	"lexprior/api"
	"lexprior/theory"
)

// town has all that a theory can have.
func town() api.Theory {
	return from("6; 0 -> 1; 1 => 2; 3 -> 3; ~> 4; -> 5; 1 5 => 4; 1 # 2; 3 # 4 # 5; 0 > 1; 2 > 3; 2 > 4; 4 > 5")
}

// badTheory is what theory.Check refuses a theory for, and one.
type badTheory struct {
	what   string
	theory api.Theory
	errno  api.Errno
}

func badTheories() []badTheory {
	var all []badTheory
	add := func(what string, errno api.Errno, change func(t *api.Theory)) {
		x := town()
		change(&x)
		all = append(all, badTheory{what, x, errno})
	}
	for _, lits := range []int{-1, 4097, math.MinInt, math.MaxInt} {
		add("Lits", api.ErrLits, func(t *api.Theory) { t.Lits = lits })
	}
	add("fewer lists of foes", api.ErrFoe, func(t *api.Theory) { t.Foes = t.Foes[:5] })
	add("more lists of foes", api.ErrFoe, func(t *api.Theory) { t.Foes = append(t.Foes, nil) })
	add("a literal fewer", api.ErrFoe, func(t *api.Theory) { t.Lits-- })
	add("its own foe", api.ErrFoe, func(t *api.Theory) { t.Foes[0] = lits(0) })
	add("a foe that does not return it", api.ErrFoe, func(t *api.Theory) { t.Foes[0] = lits(1) })
	add("a foe that there is not", api.ErrFoe, func(t *api.Theory) { t.Foes[0] = lits(6) })
	add("foes that fall", api.ErrFoe, func(t *api.Theory) { t.Foes[3] = lits(5, 4) })
	add("too many rules", api.ErrGround, func(t *api.Theory) { t.Rules = slices.Repeat(t.Rules[:1], 4097) })
	add("no kind", api.ErrRule, func(t *api.Theory) { t.Rules[0].Kind = 0 })
	add("another kind", api.ErrRule, func(t *api.Theory) { t.Rules[0].Kind = 4 })
	add("a head below 0", api.ErrRule, func(t *api.Theory) { t.Rules[0].Head = -1 })
	add("a head that there is not", api.ErrRule, func(t *api.Theory) { t.Rules[0].Head = 6 })
	add("a literal twice in a body", api.ErrRule, func(t *api.Theory) { t.Rules[0].Body = lits(0, 0) })
	add("a body that falls", api.ErrRule, func(t *api.Theory) { t.Rules[0].Body = lits(1, 0) })
	add("a body with what is no literal", api.ErrRule, func(t *api.Theory) { t.Rules[5].Body = lits(6) })
	add("a body with what is below 0", api.ErrRule, func(t *api.Theory) { t.Rules[5].Body = lits(-1) })
	add("a body that is too long", api.ErrRule, func(t *api.Theory) { t.Lits, t.Foes, t.Rules[5].Body = 17, make([][]int, 17), upTo(17) })
	add("too many pairs", api.ErrPairs, func(t *api.Theory) {
		t.Rules = slices.Repeat(t.Rules[:2], 300)
		t.Beats = make([][]int, 600)
	})
	add("fewer lists of beaten rules", api.ErrBeat, func(t *api.Theory) { t.Beats = nil })
	add("more lists of beaten rules", api.ErrBeat, func(t *api.Theory) { t.Beats = append(t.Beats, nil) })
	add("one that is no foe's is beaten", api.ErrBeat, func(t *api.Theory) { t.Beats[1] = lits(4) })
	add("a rule that there is not is beaten", api.ErrBeat, func(t *api.Theory) { t.Beats[1] = lits(6) })
	add("a circle of two", api.ErrPriorityCycle, func(t *api.Theory) { t.Beats[1] = lits(0) })
	return all
}

// badFacts: of a theory of so many literals.
func badFacts(lits int) [][]int {
	return [][]int{{-1}, {lits}, {0, 0}, {1, 0}, {0, 1, 2, 2}, {0, lits}, {-1, 0}, {math.MaxInt}, {math.MinInt}, append(upTo(lits), lits)}
}

// badMarks: lists that are shorter and longer than so many.
func badMarks(lits int) [][]api.Marks {
	var all [][]api.Marks
	for _, many := range []int{0, lits - 1, lits + 1, 2 * lits, 4096, 4097} {
		if many != lits && many >= 0 {
			all = append(all, make([]api.Marks, many), slices.Repeat(marks("+D -D +d -d"), many))
		}
	}
	return all
}

func badTags() []api.Tag {
	return []api.Tag{0, -1, 5, 8, 16, math.MinInt, math.MaxInt, 1 << 32, 1<<32 + 1, 257}
}

func badLits(lits int) []int {
	return []int{-1, lits, lits + 1, 4096, math.MinInt, math.MaxInt, 1 << 32}
}

// asking is what Holds is asked beside a theory and facts.
type asking struct {
	marks []api.Marks
	tag   api.Tag
	q     int
}

// askings: of a theory of six literals: all that may be, and what may not, one fault or two at one time.
func askings() []asking {
	var all []asking
	for _, m := range append(badMarks(6), make([]api.Marks, 6)) {
		for _, tag := range append(badTags(), tags...) {
			for _, q := range append(badLits(6), 0, 5) {
				all = append(all, asking{m, tag, q})
			}
		}
	}
	return all
}

// TestBadTheories: whatever else is asked, the theory's fault is told.
func TestBadTheories(t *testing.T) {
	for _, bad := range badTheories() {
		if errno, _ := theory.Check(bad.theory); errno != bad.errno {
			t.Fatalf("%s: Check: %d, want %d", bad.what, errno, bad.errno)
		}
		for _, facts := range append(badFacts(6), nil, lits(0), lits(0, 1, 5)) {
			wantRefused(t, bad.theory, facts, bad.errno)
			for _, m := range append(badMarks(6), make([]api.Marks, 6)) {
				wantRoundRefused(t, bad.theory, facts, m, bad.errno)
			}
		}
		for _, ask := range askings() {
			wantHoldsRefused(t, bad.theory, nil, ask.marks, ask.tag, ask.q, bad.errno)
			wantHoldsRefused(t, bad.theory, lits(1, 0), ask.marks, ask.tag, ask.q, bad.errno)
		}
	}
}

// TestBadFacts: whatever else is asked.
func TestBadFacts(t *testing.T) {
	for _, facts := range badFacts(6) {
		wantRefused(t, town(), facts, api.ErrFact)
		for _, m := range append(badMarks(6), make([]api.Marks, 6)) {
			wantRoundRefused(t, town(), facts, m, api.ErrFact)
		}
		for _, ask := range askings() {
			wantHoldsRefused(t, town(), facts, ask.marks, ask.tag, ask.q, api.ErrFact)
		}
	}
	wantRefused(t, api.Theory{}, lits(0), api.ErrFact)
	wantRoundRefused(t, api.Theory{}, lits(0), nil, api.ErrFact)
	wantHoldsRefused(t, api.Theory{}, lits(0), nil, api.PlusDelta, 0, api.ErrFact)
}

// TestBadMarks: a list that is shorter, or longer, whatever the tag and the literal are.
func TestBadMarks(t *testing.T) {
	for _, m := range badMarks(6) {
		wantRoundRefused(t, town(), lits(0), m, api.ErrCount)
		for _, tag := range append(badTags(), tags...) {
			for _, q := range append(badLits(6), 0, 5) {
				wantHoldsRefused(t, town(), lits(0), m, tag, q, api.ErrCount)
			}
		}
	}
	for _, m := range badMarks(0) {
		wantRoundRefused(t, api.Theory{}, nil, m, api.ErrCount)
		wantHoldsRefused(t, api.Theory{}, nil, m, api.PlusDelta, 0, api.ErrCount)
		wantHoldsRefused(t, api.Theory{}, nil, m, 0, -1, api.ErrCount)
	}
}

// TestBadArguments: no tag, no literal, or neither.
func TestBadArguments(t *testing.T) {
	for _, m := range [][]api.Marks{make([]api.Marks, 6), slices.Repeat(marks("+D -D +d -d ?"), 6)} {
		for _, facts := range [][]int{nil, {}, {0}, upTo(6)} {
			for _, tag := range badTags() {
				for _, q := range append(badLits(6), upTo(6)...) {
					wantHoldsRefused(t, town(), facts, m, tag, q, api.ErrArg)
				}
			}
			for _, tag := range tags {
				for _, q := range badLits(6) {
					wantHoldsRefused(t, town(), facts, m, tag, q, api.ErrArg)
				}
			}
		}
	}
	for _, q := range append(badLits(0), 0) {
		for _, tag := range append(badTags(), tags...) {
			wantHoldsRefused(t, api.Theory{}, nil, nil, tag, q, api.ErrArg)
			wantHoldsRefused(t, api.Theory{}, []int{}, []api.Marks{}, tag, q, api.ErrArg)
		}
	}
}

// TestTown: what is not refused is answered.
func TestTown(t *testing.T) {
	wantSolved(t, town(), lits(0), 3, marks(held, held, lost, none, lost, held))
	for q, want := range []bool{true, false, false, false, false, true} {
		wantHolds(t, town(), lits(0), make([]api.Marks, 6), api.PlusDelta, q, want)
	}
	wantRound(t, town(), lits(0), make([]api.Marks, 6), marks("+D", none, open, none, open, "+D"))
}
