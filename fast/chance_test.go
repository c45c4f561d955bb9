package fast_test

import (
	"slices"
	"testing"

	"lexprior/api"
	"lexprior/fast"
	"lexprior/naive"
	"lexprior/strict"
	"lexprior/theory"
)

// wantAsNaive: what the conditions give round by round.
func wantAsNaive(t testing.TB, x api.Theory, facts []int) []api.Marks {
	t.Helper()
	want, errno := naive.Solve(x, facts)
	if errno != api.OK {
		t.Fatalf("Solve(%s, %s): %d", told(x), told(facts), errno)
	}
	wantRun(t, x, facts, want)
	return want
}

func TestByChance(t *testing.T) {
	t.Parallel()
	m := newMaker(161)
	seen := tally{}
	for n := range 20000 {
		x := m.any()
		facts := m.some(pick(m, 0, 2, 5), x.Lits)
		want := wantAsNaive(t, x, facts)
		if n%20 == 0 {
			wantAllOf(t, x, facts, want)
		}
		for _, said := range want {
			seen[told(said)]++
		}
		if rounds, _ := naive.Rounds(x, facts); rounds > 6 {
			seen["more than 6 rounds"]++
		}
		if t.Failed() {
			return
		}
	}
	seen.want(t, 200, "0", "2", "4", "5", "6", "10", "more than 6 rounds")
}

// TestLargerByChance: with long chains.
func TestLargerByChance(t *testing.T) {
	t.Parallel()
	m := newMaker(162)
	most := 0
	for range 300 {
		x := pick(m, m.theory, m.row, m.row)(120, pick(m, 80, 120, 200))
		facts := m.some(20, x.Lits)
		wantAsNaive(t, x, facts)
		rounds, _ := naive.Rounds(x, facts)
		most = max(most, rounds)
		if t.Failed() {
			return
		}
	}
	if most < 12 {
		t.Errorf("only %d rounds were seen", most)
	}
}

// TestLargestByChance: as many literals and rules as may be.
func TestLargestByChance(t *testing.T) {
	t.Parallel()
	m := newMaker(163)
	for _, kind := range []func(lits, rules int) api.Theory{m.row, m.row, m.theory} {
		x := kind(4096, 4096)
		wantAsNaive(t, x, m.some(300, x.Lits))
	}
}

// all: the theories of three literals, of which the first two are foes, with these rules, by each superiority that they may have.
func all(rules []api.Rule, yield func(x api.Theory)) {
	x := plain(3, rules...)
	enemies(&x, 0, 1)
	var pairs []api.Pair
	for r := range rules {
		for s := range r {
			if rules[r].Head+rules[s].Head == 1 {
				pairs = append(pairs, api.Pair{A: r, B: s})
			}
		}
	}
	ways := 1
	for range pairs {
		ways *= 3
	}
	for way := range ways {
		x.Beats = make([][]int, len(rules))
		for _, pair := range pairs {
			switch way % 3 {
			case 1:
				insert(&x.Beats[pair.A], pair.B)
			case 2:
				insert(&x.Beats[pair.B], pair.A)
			}
			way /= 3
		}
		yield(x)
	}
}

// TestSmallWhole: all theories of two foes and a third literal with three rules that have at most one literal in their bodies, by all facts.
func TestSmallWhole(t *testing.T) {
	t.Parallel()
	var rules []api.Rule
	for _, kind := range []api.Arrow{api.Strict, api.Defeasible, api.Defeater} {
		for head := range 3 {
			for _, body := range [][]int{nil, {0}, {1}, {2}} {
				rules = append(rules, api.Rule{Kind: kind, Head: head, Body: body})
			}
		}
	}
	seen := 0
	for a := range rules {
		for b := range a + 1 {
			for c := range b + 1 {
				all([]api.Rule{rules[a], rules[b], rules[c]}, func(x api.Theory) {
					wantSmall(t, x)
					seen++
				})
			}
		}
	}
	if seen < 20000 {
		t.Errorf("only %d theories were seen", seen)
	}
}

// wantSmall: by all facts the marks of the naive engine, and the bound.
func wantSmall(t testing.TB, x api.Theory) {
	t.Helper()
	for _, facts := range [][]int{nil, {0}, {1}, {2}, {0, 1}, {0, 2}, {1, 2}, {0, 1, 2}} {
		want, _ := naive.Solve(x, facts)
		wantCounted(t, x, facts, want)
	}
	if t.Failed() {
		t.FailNow()
	}
}

// TestAsStrict: +D and -D are what the strict proof (14) says.
func TestAsStrict(t *testing.T) {
	t.Parallel()
	m := newMaker(164)
	for range 5000 {
		x := m.any()
		facts := m.some(5, x.Lits)
		plus, _ := strict.Plus(x, facts)
		minus, _ := strict.Minus(x, facts)
		if got, errno := fast.Set(x, facts, api.PlusDelta); errno != api.OK || !slices.Equal(got, plus) {
			t.Fatalf("P16.4: of %+v and %d: +D have %d, %d, want %d", x, facts, got, errno, plus)
		}
		if got, errno := fast.Set(x, facts, api.MinusDelta); errno != api.OK || !slices.Equal(got, minus) {
			t.Fatalf("P16.4: of %+v and %d: -D have %d, %d, want %d", x, facts, got, errno, minus)
		}
	}
}

// TestSpoiltByChance: the theory's fault goes ahead of the facts', that of the literal's, and that of the tag's.
func TestSpoiltByChance(t *testing.T) {
	t.Parallel()
	m := newMaker(165)
	seen := tally{}
	for range 20000 {
		x := m.theory(6, 8)
		facts, other, tag, lit := m.some(4, x.Lits), m.some(4, x.Lits), api.Tag(m.odd(6)), m.odd(x.Lits)
		if m.oneIn(3) {
			m.spoil(&x)
		}
		if m.oneIn(3) {
			facts = m.change(facts, x.Lits)
		}
		if m.oneIn(3) {
			other = m.change(other, x.Lits)
		}
		wantFirstFault(t, x, facts, lit, tag, seen)
		wantDifferFault(t, x, facts, other, seen)
		if t.Failed() {
			return
		}
	}
	for _, errno := range []api.Errno{api.OK, api.ErrLits, api.ErrFoe, api.ErrRule, api.ErrBeat, api.ErrFact, api.ErrLit, api.ErrArg} {
		seen.want(t, 150, told(errno))
	}
	seen.want(t, 1000, "facts alike", "facts unlike")
}

func wantFirstFault(t testing.TB, x api.Theory, facts []int, lit int, tag api.Tag, seen tally) {
	t.Helper()
	errno, _ := theory.Check(x)
	if errno == api.OK {
		errno = theory.CheckFacts(x, facts)
	}
	if errno != api.OK {
		wantRefused(t, x, facts, errno)
		wantSetRefused(t, x, facts, tag, errno)
		wantHoldsRefused(t, x, facts, lit, tag, errno)
		seen[told(errno)]++
		return
	}
	want := wantAsNaive(t, x, facts)
	isTag := slices.Contains(tags, tag)
	if !isTag {
		wantSetRefused(t, x, facts, tag, api.ErrArg)
	}
	switch {
	case lit < 0 || lit >= x.Lits:
		errno = api.ErrLit
		wantHoldsRefused(t, x, facts, lit, tag, errno)
	case !isTag:
		errno = api.ErrArg
		wantHoldsRefused(t, x, facts, lit, tag, errno)
	default:
		wantHolds(t, x, facts, lit, tag, has(want, lit, tag))
	}
	seen[told(errno)]++
}

func wantDifferFault(t testing.TB, x api.Theory, a, b []int, seen tally) {
	t.Helper()
	errno, _ := theory.Check(x)
	for _, facts := range [][]int{a, b} {
		if errno == api.OK {
			errno = theory.CheckFacts(x, facts)
		}
	}
	if errno != api.OK {
		wantDifferRefused(t, x, a, b, errno)
		return
	}
	one, _ := naive.Solve(x, a)
	other, _ := naive.Solve(x, b)
	want := those(x.Lits, func(lit int) bool { return one[lit] != other[lit] })
	wantDiffer(t, x, a, b, want)
	if len(want) == 0 {
		seen["facts alike"]++
	} else {
		seen["facts unlike"]++
	}
}
