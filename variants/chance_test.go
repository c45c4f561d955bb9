package variants_test

import (
	"slices"
	"testing"

	"lexprior/api"
	"lexprior/strict"
	"lexprior/theory"
)

// wantAsModel: what the conditions give, read one by one.
func wantAsModel(t testing.TB, x api.Theory, facts []int, seen tally) {
	t.Helper()
	m := solved(x, facts, seen)
	wantMarks(t, x, facts, m.propagated(), m.supported())
}

func TestByChance(t *testing.T) {
	t.Parallel()
	m := newMaker(161)
	seen := tally{}
	for range 20000 {
		x := m.any()
		wantAsModel(t, x, m.some(pick(m, 0, 2, 5), x.Lits), seen)
		if t.Failed() {
			return
		}
	}
	seen.want(t, 300, append(reasons(), "more than 6 rounds")...)
}

// TestLargerByChance: with long chains.
func TestLargerByChance(t *testing.T) {
	t.Parallel()
	m := newMaker(162)
	seen := tally{}
	for range 600 {
		x := pick(m, m.theory, m.row, m.row)(120, pick(m, 80, 120, 200))
		wantAsModel(t, x, m.some(20, x.Lits), seen)
		if t.Failed() {
			return
		}
	}
	seen.want(t, 100, append(reasons(), "more than 6 rounds")...)
}

// TestLargestByChance: as many literals and rules as may be.
func TestLargestByChance(t *testing.T) {
	t.Parallel()
	m := newMaker(163)
	for _, kind := range []func(lits, rules int) api.Theory{m.row, m.row, m.theory} {
		x := kind(4096, 4096)
		facts := m.some(300, x.Lits)
		wantAsModel(t, x, facts, tally{})
		wantTheorems(t, x, facts)
	}
}

// all: the theories of three literals, of which the first two are foes, with these rules, by each superiority that they may have.
func all(rules []api.Rule, yield func(x api.Theory)) {
	x := plain(3, rules...)
	enemies(&x, 0, 1)
	var pairs []api.Pair
	for r := range rules {
		for s := range r {
			if rules[r].Head+rules[s].Head == 1 {
				pairs = append(pairs, api.Pair{A: r, B: s})
			}
		}
	}
	ways := 1
	for range pairs {
		ways *= 3
	}
	for way := range ways {
		x.Beats = make([][]int, len(rules))
		for _, pair := range pairs {
			switch way % 3 {
			case 1:
				insert(&x.Beats[pair.A], pair.B)
			case 2:
				insert(&x.Beats[pair.B], pair.A)
			}
			way /= 3
		}
		yield(x)
	}
}

// TestSmallWhole: all theories of two foes and a third literal with three rules that have at most one literal in their bodies, by all facts.
func TestSmallWhole(t *testing.T) {
	t.Parallel()
	var rules []api.Rule
	for _, kind := range []api.Arrow{api.Strict, api.Defeasible, api.Defeater} {
		for head := range 3 {
			for _, body := range [][]int{nil, {0}, {1}, {2}} {
				rules = append(rules, api.Rule{Kind: kind, Head: head, Body: body})
			}
		}
	}
	theories := 0
	seen := tally{}
	for a := range rules {
		for b := range a + 1 {
			for c := range b + 1 {
				all([]api.Rule{rules[a], rules[b], rules[c]}, func(x api.Theory) {
					for _, facts := range [][]int{nil, {0}, {1}, {2}, {0, 1}, {0, 2}, {1, 2}, {0, 1, 2}} {
						wantAsModel(t, x, facts, seen)
					}
					theories++
				})
				if t.Failed() {
					return
				}
			}
		}
	}
	if theories < 20000 {
		t.Errorf("only %d theories were seen", theories)
	}
	seen.want(t, 150, reasons()...)
}

// TestAsStrict: +D and -D are what the strict proof (14) says, in both logics.
func TestAsStrict(t *testing.T) {
	t.Parallel()
	m := newMaker(164)
	seen := tally{}
	for range 10000 {
		x := m.any()
		facts := m.some(5, x.Lits)
		plus, _ := strict.Plus(x, facts)
		minus, _ := strict.Minus(x, facts)
		a := asked(t, x, facts)
		for lit := range x.Lits {
			var want api.Marks
			if slices.Contains(plus, lit) {
				want |= 1
			}
			if slices.Contains(minus, lit) {
				want |= 2
			}
			if a.propagated[lit]&3 != want || a.supported[lit]&3 != want {
				t.Fatalf("P17.1: of %+v and %d: %+v, but +D have %d and -D %d", x, facts, a, plus, minus)
			}
			seen[told(want)]++
		}
	}
	seen.want(t, 300, "0", "1", "2")
}

// TestSpoiltByChance: the theory's fault goes ahead of the facts'.
func TestSpoiltByChance(t *testing.T) {
	t.Parallel()
	m := newMaker(165)
	seen := tally{}
	for range 20000 {
		x := m.theory(6, 8)
		facts := m.some(4, x.Lits)
		if m.oneIn(2) {
			m.spoil(&x)
		}
		if m.oneIn(3) {
			facts = m.change(facts, x.Lits)
		}
		errno, _ := theory.Check(x)
		if errno != api.OK && theory.CheckFacts(x, facts) != api.OK {
			seen["both"]++
		}
		if errno == api.OK {
			errno = theory.CheckFacts(x, facts)
		}
		seen[told(errno)]++
		if errno == api.OK {
			wantAsModel(t, x, facts, tally{})
		} else {
			wantRefused(t, x, facts, errno)
		}
		if t.Failed() {
			return
		}
	}
	for _, errno := range []api.Errno{api.OK, api.ErrLits, api.ErrFoe, api.ErrRule, api.ErrBeat, api.ErrFact} {
		seen.want(t, 150, told(errno))
	}
	seen.want(t, 150, "both")
}
