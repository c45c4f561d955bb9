package fast_test

import (
	"slices"
	"testing"

	"lexprior/api"
	"lexprior/fast"
	"lexprior/theory"
)

// TestCoherent: no two tags against each other, +D has +d, -d has -D, and no other bits.
func TestCoherent(t *testing.T) {
	t.Parallel()
	m := newMaker(171)
	seen := tally{}
	for range 20000 {
		x := m.any()
		facts := m.some(5, x.Lits)
		for lit, said := range ran(t, x, facts) {
			switch said {
			case 0, 2, 4, 5, 6, 10: // none; -D; +d; +D +d; -D +d; -D -d
				seen[told(said)]++
			default:
				t.Fatalf("P16.5: of %+v and %d %d has the marks %d", x, facts, lit, said)
			}
		}
	}
	seen.want(t, 100, "0", "2", "4", "5", "6", "10")
}

// TestConsistent: two foes have both +d only if both have +D.
func TestConsistent(t *testing.T) {
	t.Parallel()
	m := newMaker(172)
	seen := tally{}
	for range 20000 {
		x := m.any()
		facts := m.some(pick(m, 0, 2, 5), x.Lits)
		list := ran(t, x, facts)
		for a, foes := range x.Foes {
			for _, b := range foes {
				switch both := list[a] & list[b]; {
				case both&4 == 0:
					seen["one at most"]++
				case both&1 == 0:
					t.Fatalf("P16.6: of %+v and %d %d and %d are foes and have the marks %d and %d", x, facts, a, b, list[a], list[b])
				default:
					seen["both"]++
				}
				if list[a] == marks(won)[0] && list[b]&1 == 0 {
					seen["one by a rule"]++
				}
			}
		}
	}
	seen.want(t, 1000, "both", "one at most", "one by a rule")
}

// TestAlone: p => p gives p -D alone, among other things too.
func TestAlone(t *testing.T) {
	t.Parallel()
	m := newMaker(173)
	for range 2000 {
		x := m.any()
		last := x.Lits
		x.Lits++
		x.Foes = append(x.Foes, nil)
		facts := m.some(4, last)
		if got := ran(t, x, facts)[last]; got != marks(lost)[0] {
			t.Fatalf("P16.4: of %+v and %d %d has %d", x, facts, last, got)
		}
		x.Rules = append(x.Rules, api.Rule{Kind: api.Defeasible, Head: last, Body: lits(last)})
		x.Beats = append(x.Beats, nil)
		if got := ran(t, x, facts)[last]; got != marks(open)[0] {
			t.Fatalf("P16.4: of %+v and %d %d has %d", x, facts, last, got)
		}
		if got, errno := fast.Undecided(x, facts); errno != api.OK || !slices.Contains(got, last) {
			t.Fatalf("P16.4: of %+v and %d undecided: %d, %d", x, facts, got, errno)
		}
	}
}

// mapped: what becomes of numbers, rising again.
func mapped(list []int, number []int) []int {
	var other []int
	for _, n := range list {
		insert(&other, number[n])
	}
	return other
}

// renumbered: the same theory with other numbers of literals and of rules.
func renumbered(x api.Theory, lits, rules []int) api.Theory {
	y := plain(x.Lits, make([]api.Rule, len(x.Rules))...)
	for lit, foes := range x.Foes {
		y.Foes[lits[lit]] = mapped(foes, lits)
	}
	for r, rule := range x.Rules {
		y.Rules[rules[r]] = api.Rule{Kind: rule.Kind, Head: lits[rule.Head], Body: mapped(rule.Body, lits)}
		y.Beats[rules[r]] = mapped(x.Beats[r], rules)
	}
	return y
}

// TestOtherNumbers: rules in another order and literals with other numbers have the same marks, and take the same work.
func TestOtherNumbers(t *testing.T) {
	t.Parallel()
	m := newMaker(174)
	for n := range 10000 {
		x := m.any()
		facts := m.some(5, x.Lits)
		want, wantCount, _ := fast.Counted(x, facts)
		lits, rules := upTo(x.Lits), upTo(len(x.Rules))
		if n%3 != 0 {
			lits = m.chance.Perm(x.Lits)
		}
		if n%3 != 1 {
			rules = m.chance.Perm(len(x.Rules))
		}
		y := renumbered(x, lits, rules)
		list, count, errno := fast.Counted(y, mapped(facts, lits))
		if errno != api.OK || count != wantCount {
			t.Fatalf("P16.8: Counted(%+v, %d): %d, %d, want %d as of %+v", y, mapped(facts, lits), count, errno, wantCount, x)
		}
		for lit, said := range want {
			if list[lits[lit]] != said {
				t.Fatalf("P16.8: of %+v and %d %d has %d, but as %d of %+v %d", x, facts, lit, said, lits[lit], y, list[lits[lit]])
			}
		}
	}
}

// TestCones: of the facts in which two lists differ.
func TestCones(t *testing.T) {
	t.Parallel()
	m := newMaker(175)
	seen := tally{}
	for range 10000 {
		x := m.any()
		a := m.some(5, x.Lits)
		b := m.some(5, x.Lits)
		if m.oneIn(2) && x.Lits > 0 {
			b = slices.Clone(a)
			insert(&b, m.chance.Intn(x.Lits))
		}
		apart := those(x.Lits, func(lit int) bool { return slices.Contains(a, lit) != slices.Contains(b, lit) })
		cone, errno := theory.Cone(x, apart)
		if errno != api.OK {
			t.Fatalf("Cone(%+v, %d): %d", x, apart, errno)
		}
		differ, errno := fast.Differ(x, a, b)
		if errno != api.OK {
			t.Fatalf("P16.1: Differ(%+v, %d, %d): %d", x, a, b, errno)
		}
		one, other := ran(t, x, a), ran(t, x, b)
		for lit := range x.Lits {
			_, differs := slices.BinarySearch(differ, lit)
			_, inside := slices.BinarySearch(cone, lit)
			if differs != (one[lit] != other[lit]) || differs && !inside {
				t.Fatalf("P16.9: of %+v, %d and %d: %d are unlike, the cone is %d; %d has %d and %d", x, a, b, differ, cone, lit, one[lit], other[lit])
			}
			switch {
			case !inside:
				seen["outside"]++
			case differs:
				seen["inside, and another way"]++
			default:
				seen["inside, and the same"]++
			}
		}
	}
	seen.want(t, 3000, "outside", "inside, and another way", "inside, and the same")
}
