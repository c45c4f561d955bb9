package fast_test

import (
	"slices"
	"testing"

	"lexprior/api"
	"lexprior/fast"
)

// wantHonest: each change of what was laid is counted, and no other.
func wantHonest(t testing.TB, x api.Theory, facts []int) {
	t.Helper()
	said, made := fast.Changes(x, facts)
	_, count, _ := fast.Counted(x, facts)
	if said != made || said != count.Updates {
		t.Errorf("P16.2: of %s and %s: %d updates, and %d in another run, but %d were made", told(x), told(facts), count.Updates, said, made)
	}
}

func TestUpdatesAreAllChanges(t *testing.T) {
	t.Parallel()
	m := newMaker(181)
	for range 5000 {
		x := m.any()
		wantHonest(t, x, m.some(5, x.Lits))
		if t.Failed() {
			return
		}
	}
	for range 50 {
		x := m.row(200, 300)
		wantHonest(t, x, m.some(30, x.Lits))
	}
}

// TestLaidCountsNothing: what one look shows is there at the beginning: then it counts only that it is taken out of the worklist.
func TestLaidCountsNothing(t *testing.T) {
	for text, facts := range map[string][]int{
		"0": nil, "3": nil, "3; 0 # 1 # 2": {1}, "2; 0 # 1": {0, 1}, "3; -> 0; => 1; ~> 2": nil, "2; => 0; => 1; 0 # 1": nil,
		"2; => 0; => 1; 0 # 1; 0 > 1": nil, "2; => 0; ~> 1; 0 # 1": nil, "2; => 0; 0 # 1": {1}, "1; 0 => 0": nil, "1; 0 -> 0": nil,
	} {
		_, count, errno := fast.Counted(from(text), facts)
		if errno != api.OK || count.Updates != count.Queued {
			t.Errorf("P16.2: Counted(%s, %d): %d, %d", text, facts, count, errno)
		}
	}
	// Behind it there are the mark, the worklist twice, and the counter of the rule.
	if _, count, _ := fast.Counted(from("2; 1 => 0"), lits(1)); count != (fast.Count{Queued: 4, Updates: 3 + 1 + 3}) {
		t.Errorf("P16.2: Counted: %d", count)
	}
}

// TestWorklist: first come, first served, each once; what comes meanwhile comes, too; who stops may go on.
func TestWorklist(t *testing.T) {
	x := from("3; 1 => 0; 1 => 1")
	got := fast.HandedOut(x, lits(2), api.Pair{A: 0, B: 4})
	want := []api.Pair{{A: 0, B: 2}, {A: 1, B: 2}, {A: 2, B: 1}, {A: 2, B: 3}, {A: 0, B: 4}}
	if !slices.Equal(got, want) {
		t.Errorf("handed out: %d, want %d", got, want)
	}
}

// tight are theories that leave the bound little room: all that there is comes behind the beginning, and what a theory has of literals, bodies and pairs is as little as may be for that.
func tight() map[string]api.Theory {
	all := map[string]api.Theory{}
	add := func(what string, x api.Theory) {
		x.Beats = append(x.Beats, make([][]int, len(x.Rules)-len(x.Beats))...)
		all[what] = x
	}
	const n = 60
	for what, kind := range map[string]api.Arrow{"strict": api.Strict, "defeasible": api.Defeasible} {
		chain, star, stars := plain(n), plain(n), from("60; 2 -> 1; 3 -> 2; => 1")
		bare := plain(n)
		for q := 4; q < n; q++ {
			chain.Rules = append(chain.Rules, rule(kind, q, q-1))
			star.Rules = append(star.Rules, rule(kind, q, 1))
			stars.Rules = append(stars.Rules, rule(kind, q, 1))
			bare.Rules = append(bare.Rules, rule(kind, q, 1), rule(api.Defeasible, q))
			for _, x := range []*api.Theory{&star, &stars, &bare} {
				enemies(x, 0, q)
			}
		}
		add("a chain, "+what, chain)
		add("many by one, with one foe, "+what, star)
		add("many by one that has +d ahead of -D, "+what, stars)
		add("many by one and by nothing, "+what, bare)
	}
	for _, ruled := range lits(1, 2, 4, 8, 16) {
		bare, late := plain(65), plain(65)
		for q := range ruled {
			bare.Rules = append(bare.Rules, rule(api.Defeasible, q))
			late.Rules = append(late.Rules, rule(api.Strict, q, 64))
		}
		enemies(&bare, upTo(65)...)
		enemies(&late, upTo(65)...)
		add("foes without rules, but for "+told(ruled), bare)
		add("foes without rules, but for a later "+told(ruled), late)
	}
	add("each beats all of the other side", sides(20))
	return all
}

// sides: two foes with so many rules each; those of the one beat all of the other's, and each waits for a literal of its own.
func sides(many int) api.Theory {
	x := plain(2 + 2*many)
	enemies(&x, 0, 1)
	for r := range 2 * many {
		x.Rules = append(x.Rules, rule(api.Strict, r/many, 2+r))
	}
	for range many {
		x.Beats = append(x.Beats, upTo(2 * many)[many:])
	}
	return x
}

func TestTight(t *testing.T) {
	t.Parallel()
	for what, x := range tight() {
		for _, facts := range [][]int{nil, {0}, {1}, {3}, {0, 1}, {0, 3}, {64}} {
			if len(facts) > 0 && facts[len(facts)-1] >= x.Lits {
				continue
			}
			wantAsNaive(t, x, facts)
			wantHonest(t, x, facts)
			if t.Failed() {
				t.Fatal(what)
			}
		}
	}
}

// TestChainsAreWalkedOnce: however their rules stand, twice as long takes twice as much, and no more.
func TestChainsAreWalkedOnce(t *testing.T) {
	t.Parallel()
	m := newMaker(182)
	for _, kind := range []api.Arrow{api.Strict, api.Defeasible} {
		took := func(n int, order []int, facts []int) int {
			x := plain(n)
			for _, r := range order {
				x.Rules = append(x.Rules, rule(kind, r+1, r))
			}
			x.Beats = make([][]int, len(x.Rules))
			_, count, errno := fast.Counted(x, facts)
			if errno != api.OK || count.Queued != 2*n || count.Updates > 4*(2*n-1) {
				t.Errorf("P16.7: a chain of %d: %d, %d", n, count, errno)
			}
			return count.Updates
		}
		for _, facts := range [][]int{nil, {0}} {
			one, two, three := took(1000, upTo(999), facts), took(2000, upTo(1999), facts), took(3000, upTo(2999), facts)
			if two-one != three-two {
				t.Errorf("P16.7: chains of 1000, 2000 and 3000 take %d, %d and %d updates", one, two, three)
			}
			down := upTo(1999)
			slices.Reverse(down)
			if back, mixed := took(2000, down, facts), took(2000, m.chance.Perm(1999), facts); back != two || mixed != two {
				t.Errorf("P16.8: the same chain takes %d, %d and %d updates", two, back, mixed)
			}
		}
	}
}
