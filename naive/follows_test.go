package naive_test

import (
	"slices"
	"testing"

	"lexprior/api"
	"lexprior/naive"
)

func solvedBy(t testing.TB, x api.Theory, facts []int) []api.Marks {
	t.Helper()
	list, errno := naive.Solve(x, facts)
	if errno != api.OK || len(list) != x.Lits {
		t.Fatalf("P15.2: Solve(%+v, %d): %d, %d", x, facts, list, errno)
	}
	return list
}

func roundBy(t testing.TB, x api.Theory, facts []int, m []api.Marks) []api.Marks {
	t.Helper()
	list, errno := naive.Round(x, facts, m)
	if errno != api.OK || len(list) != x.Lits {
		t.Fatalf("P15.2: Round(%+v, %d, %d): %d, %d", x, facts, m, list, errno)
	}
	return list
}

// within: has the one list no mark that the other has not?
func within(less, more []api.Marks) bool {
	for lit := range less {
		if less[lit]&^more[lit] != 0 {
			return false
		}
	}
	return true
}

// TestRoundsEndInSolve: just as many as Rounds says bring something, and then there is Solve, which a round leaves as it is.
func TestRoundsEndInSolve(t *testing.T) {
	t.Parallel()
	m := newMaker(161)
	for range 5000 {
		x := m.any()
		facts := m.some(5, x.Lits)
		rounds, errno := naive.Rounds(x, facts)
		if errno != api.OK {
			t.Fatalf("P15.2: Rounds(%+v, %d): %d", x, facts, errno)
		}
		list := make([]api.Marks, x.Lits)
		for n := range rounds {
			next := roundBy(t, x, facts, list)
			if slices.Equal(next, list) || !within(list, next) {
				t.Fatalf("P15.2: of %+v and %d the round %d of %d makes %d of %d", x, facts, n+1, rounds, next, list)
			}
			list = next
		}
		if end := solvedBy(t, x, facts); !slices.Equal(end, list) {
			t.Fatalf("P15.2: of %+v and %d: %d rounds make %d, but Solve is %d", x, facts, rounds, list, end)
		}
		if after := roundBy(t, x, facts, list); !slices.Equal(after, list) {
			t.Fatalf("P15.3: of %+v and %d a round makes %d of %d", x, facts, after, list)
		}
	}
}

// each: all mark lists of so many literals.
func each(lits int) func(yield func([]api.Marks) bool) {
	return func(yield func([]api.Marks) bool) {
		for n := range 1 << (4 * lits) {
			list := make([]api.Marks, lits)
			for lit := range list {
				list[lit] = api.Marks(n >> (4 * lit) & 15)
			}
			if !yield(list) {
				return
			}
		}
	}
}

// TestLeast: of all lists of small theories, Solve is in each that a round leaves as it is.
func TestLeast(t *testing.T) {
	t.Parallel()
	m := newMaker(162)
	left, more := 0, 0
	for range 300 {
		x := m.theory(3, 5)
		facts := m.some(2, x.Lits)
		end := solvedBy(t, x, facts)
		for list := range each(x.Lits) {
			if !slices.Equal(roundBy(t, x, facts, list), list) {
				continue
			}
			left++
			if !within(end, list) {
				t.Fatalf("P15.3: of %+v and %d a round leaves %d as it is, and Solve is %d", x, facts, list, end)
			}
			if !slices.Equal(end, list) {
				more++
			}
		}
	}
	if left < 300 || more < 300 {
		t.Errorf("only %d lists were left as they are, %d of them more than Solve", left, more)
	}
}

// TestMoreMarks: a round of more marks is more marks, and no less than what it was made of.
func TestMoreMarks(t *testing.T) {
	t.Parallel()
	m := newMaker(163)
	seen := tally{}
	for range 10000 {
		x := m.any()
		facts := m.some(4, x.Lits)
		less, more := m.marks(x.Lits), m.marks(x.Lits)
		for lit := range more {
			more[lit] |= less[lit]
		}
		lessRound, moreRound := roundBy(t, x, facts, less), roundBy(t, x, facts, more)
		if !within(less, lessRound) || !within(lessRound, moreRound) {
			t.Fatalf("P15.3: of %+v and %d: of %d there is %d, of %d %d", x, facts, less, lessRound, more, moreRound)
		}
		if !within(lessRound, more) {
			seen["something came of less"]++
		}
		if !slices.Equal(lessRound, moreRound) {
			seen["more came of more"]++
		}
	}
	seen.want(t, 3000, "something came of less", "more came of more")
}

// TestLeastAboveAnyList: rounds from any list end above Solve.
func TestLeastAboveAnyList(t *testing.T) {
	t.Parallel()
	m := newMaker(164)
	for range 2000 {
		x := m.any()
		facts := m.some(4, x.Lits)
		list := m.marks(x.Lits)
		for next := roundBy(t, x, facts, list); !slices.Equal(next, list); next = roundBy(t, x, facts, list) {
			list = next
		}
		if end := solvedBy(t, x, facts); !within(end, list) {
			t.Fatalf("P15.3: of %+v and %d rounds end with %d, and Solve is %d", x, facts, list, end)
		}
	}
}

// TestCoherent: no two tags against each other, +D is +d, -d is -D, and no other bits.
func TestCoherent(t *testing.T) {
	t.Parallel()
	m := newMaker(165)
	seen := tally{}
	for range 20000 {
		x := m.any()
		facts := m.some(5, x.Lits)
		for lit, said := range solvedBy(t, x, facts) {
			switch said {
			case 0, 2, 4, 5, 6, 10: // none; -D; +d; +D +d; -D +d; -D -d
				seen[told(said)]++
			default:
				t.Fatalf("P15.4: of %+v and %d %d has the marks %d", x, facts, lit, said)
			}
		}
	}
	seen.want(t, 100, "0", "2", "4", "5", "6", "10")
}

// TestConsistent: two foes have both +d only if both have +D.
func TestConsistent(t *testing.T) {
	t.Parallel()
	m := newMaker(166)
	seen := tally{}
	for range 20000 {
		x := m.any()
		facts := m.some(pick(m, 0, 2, 5), x.Lits)
		list := solvedBy(t, x, facts)
		for a, foes := range x.Foes {
			for _, b := range foes {
				switch both := list[a] & list[b]; {
				case both&4 == 0:
					seen["one at most"]++
				case both&1 == 0:
					t.Fatalf("P15.5: of %+v and %d %d and %d are foes and have the marks %d and %d", x, facts, a, b, list[a], list[b])
				default:
					seen["both"]++
				}
				if list[a] == marks(won)[0] && list[b]&1 == 0 {
					seen["one by a rule"]++
				}
			}
		}
	}
	seen.want(t, 1000, "both", "one at most", "one by a rule")
}

// TestConsistentWhole: of all theories of two foes with at most three rules that have no body, or the foe's or their own literal in it.
func TestConsistentWhole(t *testing.T) {
	t.Parallel()
	var all []api.Rule
	for _, kind := range []api.Arrow{api.Strict, api.Defeasible, api.Defeater} {
		for _, head := range lits(0, 1) {
			for _, body := range [][]int{nil, {0}, {1}} {
				all = append(all, api.Rule{Kind: kind, Head: head, Body: body})
			}
		}
	}
	for _, a := range all {
		for _, b := range all {
			for _, c := range all {
				wantPair(t, a, b, c)
			}
		}
	}
}

// wantPair: of these rules, with the first above the others and without, what the model says; coherent and consistent.
func wantPair(t testing.TB, rules ...api.Rule) {
	t.Helper()
	for _, over := range []bool{false, true} {
		x := plain(2, rules...)
		enemies(&x, 0, 1)
		for r := 1; over && r < len(rules); r++ {
			if rules[r].Head != rules[0].Head {
				insert(&x.Beats[0], r)
			}
		}
		for _, facts := range [][]int{nil, {0}, {1}, {0, 1}} {
			lists := solved(x, facts, tally{})
			wantSolved(t, x, facts, len(lists)-1, lists[len(lists)-1])
			list := solvedBy(t, x, facts)
			if list[0]&list[1]&4 != 0 && list[0]&list[1]&1 == 0 {
				t.Errorf("P15.5: of %+v and %d: %d", x, facts, list)
			}
			for _, said := range list {
				if said&3 == 3 || said&12 == 12 || said&5 == 1 || said&10 == 8 {
					t.Errorf("P15.4: of %+v and %d: %d", x, facts, list)
				}
			}
		}
	}
}

// TestAlone: p => p gives p -D alone, among other things too; a literal without rules that is no fact has -D and -d.
func TestAlone(t *testing.T) {
	t.Parallel()
	m := newMaker(167)
	bare := 0
	for range 3000 {
		x := m.any()
		x.Lits++
		x.Foes = append(x.Foes, nil)
		last := x.Lits - 1
		facts := m.some(4, last)
		if got := solvedBy(t, x, facts)[last]; got != marks(lost)[0] {
			t.Fatalf("P15.6: of %+v and %d %d has %d", x, facts, last, got)
		}
		for lit, said := range solvedBy(t, x, facts) {
			has := slices.ContainsFunc(x.Rules, func(rule api.Rule) bool { return rule.Head == lit })
			if !has && !slices.Contains(facts, lit) {
				bare++
				if said != marks(lost)[0] {
					t.Fatalf("P15.6: of %+v and %d %d has %d", x, facts, lit, said)
				}
			}
		}
		x.Rules = append(x.Rules, api.Rule{Kind: api.Defeasible, Head: last, Body: lits(last)})
		x.Beats = append(x.Beats, nil)
		if got := solvedBy(t, x, facts)[last]; got != marks(open)[0] {
			t.Fatalf("P15.6: of %+v and %d %d has %d", x, facts, last, got)
		}
	}
	if bare < 3000+1000 {
		t.Errorf("only %d literals without rules were seen", bare)
	}
}
