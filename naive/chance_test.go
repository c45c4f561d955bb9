package naive_test

import (
	"slices"
	"testing"

	"lexprior/api"
	"lexprior/naive"
	"lexprior/strict"
	"lexprior/theory"
)

// tally counts what a test saw, so that it can tell that it saw enough of it.
type tally map[string]int

func (y tally) want(t testing.TB, least int, all ...string) {
	t.Helper()
	for _, what := range all {
		if y[what] < least {
			t.Errorf("only %d times: %s", y[what], what)
		}
	}
}

// reasons: all that model.because can say.
func reasons() []string {
	return []string{
		"+D: a fact", "+D: a rule", "-D",
		"+d: by +D", "+d: unopposed", "+d: what is refuted is against it", "+d: what is beaten is against it", "+d: what is not known is beaten",
		"-d: no rule", "-d: a foe", "-d: by a foe's rule", "-d: what beats is refuted",
	}
}

func TestSolveByChance(t *testing.T) {
	t.Parallel()
	m := newMaker(151)
	seen := tally{}
	for range 20000 {
		x := m.any()
		facts := m.some(pick(m, 0, 2, 5), x.Lits)
		lists := solved(x, facts, seen)
		wantSolved(t, x, facts, len(lists)-1, lists[len(lists)-1])
		seen["more than 6 rounds"] += len(lists) / 7
		if t.Failed() {
			return
		}
	}
	seen.want(t, 300, append(reasons(), "more than 6 rounds")...)
}

// TestListsByChance: Round and Holds of lists of any marks.
func TestListsByChance(t *testing.T) {
	t.Parallel()
	m := newMaker(152)
	seen := tally{}
	for range 20000 {
		x := m.any()
		facts, list := m.some(pick(m, 0, 2, 5), x.Lits), m.marks(x.Lits)
		asked := model{x, facts, list}
		next, _ := asked.round()
		wantRound(t, x, facts, list, next)
		for q := range x.Lits {
			for _, tag := range tags {
				because := asked.because(tag, q)
				wantHolds(t, x, facts, list, tag, q, because != "")
				seen[because]++
			}
		}
		if t.Failed() {
			return
		}
	}
	seen.want(t, 200, append(reasons(), "")...)
}

// TestLargerByChance: with long chains.
func TestLargerByChance(t *testing.T) {
	t.Parallel()
	m := newMaker(153)
	most := 0
	for range 120 {
		x := pick(m, m.theory, m.row, m.row)(120, pick(m, 80, 120, 200))
		facts := m.some(20, x.Lits)
		lists := solved(x, facts, tally{})
		wantSolved(t, x, facts, len(lists)-1, lists[len(lists)-1])
		most = max(most, len(lists)-1)
		if t.Failed() {
			return
		}
	}
	if most < 12 {
		t.Errorf("only %d rounds were seen", most)
	}
}

// TestAsStrict: +D and -D are what the strict proof (14) says, in its rounds.
func TestAsStrict(t *testing.T) {
	t.Parallel()
	m := newMaker(154)
	seen := tally{}
	for range 10000 {
		x := m.any()
		facts := m.some(5, x.Lits)
		plus, _ := strict.Plus(x, facts)
		minus, _ := strict.Minus(x, facts)
		heights, _ := strict.Heights(x, facts)
		list, _ := naive.Solve(x, facts)
		rounds := strictRounds(t, x, facts)
		for q, said := range list {
			if said&1 != 0 != slices.Contains(plus, q) || said&2 != 0 != slices.Contains(minus, q) {
				t.Fatalf("P15.2: of %+v and %d: %d, but +D have %d and -D %d", x, facts, list, plus, minus)
			}
			seen[told(said&3)]++
		}
		if !slices.Equal(rounds, heights) {
			t.Fatalf("P15.2: of %+v and %d: +D and -D come in the rounds %d, want %d", x, facts, rounds, heights)
		}
	}
	seen.want(t, 300, "0", "1", "2")
}

// strictRounds: of each literal in which round its +D or -D comes.
func strictRounds(t testing.TB, x api.Theory, facts []int) []int {
	t.Helper()
	rounds := make([]int, x.Lits)
	list := make([]api.Marks, x.Lits)
	many, _ := naive.Rounds(x, facts)
	for n := range many {
		next, errno := naive.Round(x, facts, list)
		if errno != api.OK {
			t.Fatalf("P15.2: Round: %d", errno)
		}
		for q, said := range next {
			if said&3 != 0 && rounds[q] == 0 {
				rounds[q] = n + 1
			}
		}
		list = next
	}
	return rounds
}

// TestSpoiltByChance: the theory's fault goes ahead of the facts', that of the list's, and that of the tag's and the literal's.
func TestSpoiltByChance(t *testing.T) {
	t.Parallel()
	m := newMaker(155)
	seen := tally{}
	for range 20000 {
		x := m.theory(6, 8)
		facts, list, tag, q := m.some(4, x.Lits), m.marks(x.Lits), api.Tag(m.odd(6)), m.odd(x.Lits)
		if m.oneIn(2) {
			m.spoil(&x)
		}
		if m.oneIn(3) {
			facts = m.change(facts, x.Lits)
		}
		if m.oneIn(3) {
			list = pick(m, append(list, 0), list[:len(list)/2], nil)
		}
		wantFirstFault(t, x, facts, list, tag, q, seen)
		if t.Failed() {
			return
		}
	}
	for _, errno := range []api.Errno{api.OK, api.ErrLits, api.ErrFoe, api.ErrRule, api.ErrBeat, api.ErrFact, api.ErrCount, api.ErrArg} {
		seen.want(t, 150, told(errno))
	}
}

func wantFirstFault(t testing.TB, x api.Theory, facts []int, list []api.Marks, tag api.Tag, q int, seen tally) {
	t.Helper()
	errno, _ := theory.Check(x)
	if errno == api.OK {
		errno = theory.CheckFacts(x, facts)
	}
	if errno != api.OK {
		wantRefused(t, x, facts, errno)
	} else {
		lists := solved(x, facts, tally{})
		wantSolved(t, x, facts, len(lists)-1, lists[len(lists)-1])
		if len(list) != x.Lits {
			errno = api.ErrCount
		}
	}
	asked := model{x, facts, list}
	if errno != api.OK {
		wantRoundRefused(t, x, facts, list, errno)
	} else {
		next, _ := asked.round()
		wantRound(t, x, facts, list, next)
		if !slices.Contains(tags, tag) || q < 0 || q >= x.Lits {
			errno = api.ErrArg
		}
	}
	if errno != api.OK {
		wantHoldsRefused(t, x, facts, list, tag, q, errno)
	} else {
		wantHolds(t, x, facts, list, tag, q, asked.because(tag, q) != "")
	}
	seen[told(errno)]++
}
