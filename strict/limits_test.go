package strict_test

import (
	"slices"
	"testing"

	"lexprior/api"
)

// from: so many numbers from the first on.
func from(first, many int) []int {
	return upTo(first + many)[first:]
}

func TestLongChains(t *testing.T) {
	var up, down []api.Rule
	for r := range 4095 {
		up = append(up, rule(r+1, r))
		down = append(down, rule(r, r+1))
	}
	all, turned := from(1, 4096), from(1, 4096)
	slices.Reverse(turned)
	for _, one := range []struct {
		theory  api.Theory
		first   int
		last    int
		heights []int
	}{{plain(4096, up...), 0, 4095, all}, {plain(4096, down...), 4095, 0, turned}} {
		wantTags(t, one.theory, lits(one.first), upTo(4096), nil, nil)
		wantHeights(t, one.theory, lits(one.first), one.heights)
		wantLeast(t, one.theory, lits(one.first), one.last, lits(one.first), api.OK)
		wantTags(t, one.theory, nil, nil, upTo(4096), nil)
		wantHeights(t, one.theory, nil, one.heights)
		wantLoop(t, one.theory, nil, one.last, nil, api.ErrNone)
	}
}

func TestLongCircle(t *testing.T) {
	var rules []api.Rule
	for r := range 4096 {
		rules = append(rules, rule(r, (r+1)%4096))
	}
	x := plain(4096, rules...)
	wantTags(t, x, nil, nil, nil, upTo(4096))
	wantHeights(t, x, nil, make([]int, 4096))
	wantLoop(t, x, nil, 0, append(upTo(4096), 0), api.OK)
	wantLoop(t, x, nil, 7, append(from(7, 4089), upTo(8)...), api.OK)
	wantTags(t, x, lits(0), upTo(4096), nil, nil)
	wantLeast(t, x, lits(0), 1, lits(0), api.OK)
	// All but the last circle lead on to it.
	x.Rules[4095].Body = lits(4095)
	wantLoop(t, x, nil, 0, append(upTo(4096), 4095), api.OK)
}

// TestMostOfAll: literals, rules and premises; by way of each two the facts below are met again and again.
func TestMostOfAll(t *testing.T) {
	x := plain(4096)
	for head := 16; head < 4096; head++ {
		x.Rules = append(x.Rules, rule(head, from(head-16, 16)...))
	}
	x.Rules = append(x.Rules, slices.Repeat([]api.Rule{rule(0, 4095)}, 16)...)
	x.Beats = make([][]int, 4096)
	heights := append(slices.Repeat([]int{1}, 16), from(2, 4080)...)
	wantTags(t, x, upTo(16), upTo(4096), nil, nil)
	wantHeights(t, x, upTo(16), heights)
	wantLeast(t, x, upTo(16), 4095, upTo(16), api.OK)
	wantTags(t, x, nil, nil, upTo(4096), nil)
	// The other facts but 0 leave one circle, through 0.
	wantLoop(t, x, from(1, 15), 0, append(lits(0, 4095), loopDown(4095)...), api.OK)
}

// loopDown: from the highest literal each leads to the lowest of its body, 16 down, till one has 0 in its body.
func loopDown(first int) []int {
	var list []int
	for lit := first - 16; lit > 15; lit -= 16 {
		list = append(list, lit)
	}
	// That one is 31, whose body begins with 15, a fact: the next is 16, whose body begins with 0.
	return append(list, 16, 0)
}

func TestManyRulesForOne(t *testing.T) {
	var rules []api.Rule
	for r := range 4095 {
		rules = append(rules, rule(0, r+1))
	}
	x := plain(4096, rules...)
	wantTags(t, x, nil, nil, upTo(4096), nil)
	wantHeights(t, x, nil, append(lits(2), slices.Repeat([]int{1}, 4095)...))
	wantTags(t, x, lits(4095), lits(0, 4095), from(1, 4094), nil)
	wantLeast(t, x, from(1, 4095), 0, lits(1), api.OK)
	wantLeast(t, x, lits(77, 4095), 0, lits(77), api.OK)
	x.Rules = append(x.Rules, rule(4095, 4095))
	x.Beats = make([][]int, 4096)
	wantTags(t, x, nil, nil, from(1, 4094), lits(0, 4095))
	wantLoop(t, x, nil, 0, lits(0, 4095, 4095), api.OK)
}

func TestMostFoes(t *testing.T) {
	x := plain(4096)
	var all []api.Pair
	for first := 0; first+64 < 4096; first += 65 {
		enemies(&x, from(first, 65)...)
		for a := first; a < first+65; a++ {
			for b := a + 1; b < first+65; b++ {
				all = append(all, pair(a, b))
			}
		}
	}
	wantClash(t, x, upTo(4096), all...)
	wantClash(t, x, nil)
	wantClash(t, x, lits(0, 64, 65), pair(0, 64))
}

// TestPastTheMost: one literal, one rule, one of a body more is refused.
func TestPastTheMost(t *testing.T) {
	wantRefused(t, plain(4097), nil, api.ErrLits)
	wantLitRefused(t, plain(4097), nil, 4096, api.ErrLits)
	wantTags(t, plain(4096), upTo(4096), upTo(4096), nil, nil)
	wantRefused(t, plain(4096), upTo(4097), api.ErrFact)
	wantLitRefused(t, plain(4096), nil, 4096, api.ErrLit)
	wantRefused(t, plain(1, slices.Repeat([]api.Rule{rule(0)}, 4097)...), nil, api.ErrGround)
	wantTags(t, plain(1, slices.Repeat([]api.Rule{rule(0)}, 4096)...), nil, lits(0), nil, nil)
	wantRefused(t, plain(17, rule(0, upTo(17)...)), nil, api.ErrRule)
	wantTags(t, plain(17, rule(16, upTo(16)...)), upTo(16), upTo(17), nil, nil)
}
