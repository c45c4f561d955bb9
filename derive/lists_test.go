package derive_test

import (
	"slices"
	"testing"

	"lexprior/api"
	"lexprior/derive"
)

func TestNoSteps(t *testing.T) {
	for _, x := range []api.Theory{{}, {Foes: [][]int{}, Rules: []api.Rule{}, Beats: [][]int{}}, town(), from("1; 0 -> 0")} {
		wantChecked(t, x, nil, nil)
		wantChecked(t, x, []int{}, []api.Step{})
		wantLeanRefused(t, x, nil, nil, api.ErrCount)
		wantLeanRefused(t, x, []int{}, []api.Step{}, api.ErrCount)
	}
	wantFault(t, api.Theory{}, nil, []api.Step{{}}, api.ErrStep, 0)
	wantFault(t, api.Theory{}, nil, steps("-D 0 none"), api.ErrStep, 0)
	wantFollows(t, api.Theory{}, nil, nil, step("-D 0 none"), false)
	wantNeedsRefused(t, api.Theory{}, step("-D 0 none"), api.ErrStep)
	wantNeedsRefused(t, api.Theory{}, api.Step{}, api.ErrStep)
}

// TestMostSteps: as many as there may be, and one more; a step at fault is told only of a list that is not too long.
func TestMostSteps(t *testing.T) {
	x := from("2; => 0; => 1; 0 # 1; 0 > 1")
	most := slices.Concat(slices.Repeat(steps("-D 0 none; -D 1 none"), api.MaxSteps/2-1), steps("-D 1 none; +d 0 rule 0 / -1 0"))
	if len(most) != 65536 {
		t.Fatalf("%d steps", len(most))
	}
	wantChecked(t, x, nil, most)
	wantLean(t, x, nil, most, steps("-D 1 none; +d 0 rule 0 / -1 0"))
	for _, at := range lits(0, 1, 30000, 65534, 65535) {
		wrong := slices.Clone(most)
		wrong[at].Rule = 0
		wrong[at].Choices = nil
		wantFault(t, x, nil, wrong, api.ErrStep, at)
		wantFault(t, x, nil, append(wrong, step("-D 0 none")), api.ErrCount, 0)
	}
	wantFault(t, x, nil, append(most, step("-D 0 none")), api.ErrCount, 0)
	wantFault(t, x, nil, append(most, most...), api.ErrCount, 0)
	wantFault(t, x, nil, make([]api.Step, 65536), api.ErrStep, 0)
	wantFault(t, x, nil, make([]api.Step, 65537), api.ErrCount, 0)
}

// chain: a derivation of which each step but the first two needs the one ahead.
func chain() (api.Theory, []api.Step) {
	x := from("6; 0 -> 1; 1 -> 2; 2 => 3; 3 => 4; 4 # 5")
	return x, steps("-D 5 none; +D 0 fact; +D 1 rule 0; +D 2 rule 1; +d 2 strict; +d 3 rule 2; +d 4 rule 3; -d 5 none")
}

// TestFirstThatDoesNotFollow: the first, one in the middle, the last; several.
func TestFirstThatDoesNotFollow(t *testing.T) {
	x, l := chain()
	wantChecked(t, x, lits(0), l)
	for at := range l {
		for _, wrong := range steps("+D 5 fact; -D 0 none; +d 5 rule; -d 3 none; +d 1 rule 2; -d 5 strict 4; -d 5 beaten 3 / 0 -1") {
			wrongs := slices.Clone(l)
			wrongs[at] = wrong
			wantFault(t, x, lits(0), wrongs, api.ErrStep, at)
			wrongs[len(l)-1] = wrong
			wantFault(t, x, lits(0), wrongs, api.ErrStep, at)
			wantFault(t, x, lits(0), slices.Insert(slices.Clone(l), at, wrong), api.ErrStep, at)
			wantFault(t, x, lits(0), append(slices.Clone(l), wrong), api.ErrStep, len(l))
		}
	}
	// By other facts: a fact that is none; one that should be none.
	wantFault(t, x, nil, l, api.ErrStep, 1)
	wantFault(t, x, lits(0, 5), l, api.ErrStep, 0)
}

// TestOrderOfSteps: without a step the first that needs it does not follow; nor does one that stands ahead of what it needs.
func TestOrderOfSteps(t *testing.T) {
	x, l := chain()
	for at, fails := range lits(6, 2, 3, 4, 5, 6) {
		without := slices.Delete(slices.Clone(l), at, at+1)
		wantFault(t, x, lits(0), without, api.ErrStep, fails-1)
		wantFault(t, x, lits(0), append(without, l[at]), api.ErrStep, fails-1)
		late := slices.Insert(without, fails, l[at]) // behind the first that needs it
		wantFault(t, x, lits(0), late, api.ErrStep, fails-1)
	}
	for at := range 2 {
		wantChecked(t, x, lits(0), slices.Delete(slices.Clone(l), 6+at, 7+at))
	}
	turned := slices.Clone(l)
	slices.Reverse(turned)
	wantFault(t, x, lits(0), turned, api.ErrStep, 0)
	// A step is not ahead of itself, nor two of each other.
	y := from("2; 1 -> 0; 0 -> 1; 1 => 0; 0 => 1")
	wantFault(t, y, nil, steps("+D 0 rule 0; +D 1 rule 1"), api.ErrStep, 0)
	wantFault(t, y, nil, steps("-D 0 none / 0 -1; -D 1 none / 0 -1"), api.ErrStep, 0)
	wantFault(t, y, nil, steps("+d 0 rule 2; +d 1 rule 3"), api.ErrStep, 0)
	wantFault(t, y, nil, steps("-d 0 none / 0 -1 / 0 -1"), api.ErrStep, 0)
	wantFault(t, from("1; 0 => 0"), nil, steps("-D 0 none; +d 0 rule 0"), api.ErrStep, 1)
	wantFault(t, from("1; 0 => 0"), nil, steps("-D 0 none; -d 0 none / 0 -1"), api.ErrStep, 1)
}

// TestLean: what nothing needs goes; of steps that say the same the first stays.
func TestLean(t *testing.T) {
	x, l := chain()
	facts := lits(0)
	wantLean(t, x, facts, l, steps("-D 5 none; -d 5 none"))
	wantLean(t, x, facts, l[:7], steps("-D 5 none; +D 0 fact; +D 1 rule 0; +D 2 rule 1; +d 2 strict; +d 3 rule 2; +d 4 rule 3"))
	wantLean(t, x, facts, l[:6], l[1:6])
	wantLean(t, x, facts, l[:4], l[1:4])
	wantLean(t, x, facts, l[:1], l[:1])
	wantLean(t, x, facts, steps("+D 0 fact; -D 5 none"), l[:1])

	// The same by two ways: the first, whatever the second needs.
	y := from("4; 0 => 2; 1 => 2; => 2; 0 -> 3; 1 -> 3")
	facts = lits(0, 1)
	both := steps("+D 0 fact; +D 1 fact; +d 0 strict; +d 1 strict; +d 2 rule 1; +d 2 rule 0; +d 2 rule 2")
	wantLean(t, y, facts, both, steps("+D 1 fact; +d 1 strict; +d 2 rule 1"))
	wantLean(t, y, facts, both[:6], steps("+D 1 fact; +d 1 strict; +d 2 rule 1"))
	wantLean(t, y, facts, slices.Insert(slices.Clone(both), 0, both[6]), steps("+d 2 rule 2"))
	wantLean(t, y, facts, steps("+D 0 fact; +D 1 fact; +D 3 rule 4; +D 3 rule 3; +d 3 strict"), steps("+D 1 fact; +D 3 rule 4; +d 3 strict"))
	wantLean(t, y, facts, steps("+D 0 fact; +D 0 fact; +D 0 fact"), steps("+D 0 fact"))

	// What the last step says was said ahead of it, and what followed of that is not needed.
	wantLean(t, y, facts, steps("+D 1 fact; +D 0 fact; +d 0 strict; +d 2 rule 0; +D 0 fact"), steps("+D 0 fact"))
	wantLean(t, y, facts, steps("+D 1 fact; +d 1 strict; +D 0 fact; +d 0 strict; +d 2 rule 0; +d 1 strict"), steps("+D 1 fact; +d 1 strict"))
	// The other tag of the literal is another thing.
	wantLean(t, y, facts, steps("+D 0 fact; +d 0 strict; +D 1 fact; +D 0 fact"), steps("+D 0 fact"))
	wantLean(t, y, facts, steps("-D 2 none; +D 0 fact; +d 0 strict; -D 2 none; +d 2 rule 0"), steps("+D 0 fact; +d 0 strict; +d 2 rule 0"))
}

// TestLeanKeepsWhatIsNamed: bodies, foes, places, what beats, and the literal's own tags.
func TestLeanKeepsWhatIsNamed(t *testing.T) {
	x := from("9; 0 => 5; 1 => 6; 2 => 6; 3 => 5; 5 # 6; 3 > 2; 7 -> 8")
	facts := lits(0, 2, 3)
	all := steps(`-D 7 none; -D 8 none / 0 -1; +D 0 fact; +d 0 strict; -D 1 none; -d 1 none; +D 2 fact; +d 2 strict; +D 3 fact; +d 3 strict;
		-D 4 none; -d 4 none; -D 5 none; -D 6 none; +d 5 rule 0 / 0 -1 / -1 3`)
	wantLean(t, x, facts, all, steps("+D 0 fact; +d 0 strict; -D 1 none; -d 1 none; +D 3 fact; +d 3 strict; -D 6 none; +d 5 rule 0 / 0 -1 / -1 3"))
	all[len(all)-1] = step("-d 6 beaten 0")
	wantLean(t, x, facts, all, steps("+D 0 fact; +d 0 strict; -D 6 none; -d 6 beaten 0"))
	wantLean(t, x, facts, append(all[:1:1], all[1:2]...), steps("-D 7 none; -D 8 none / 0 -1"))
	strict := steps("+D 0 fact; -D 5 none; -D 6 none; +D 5 fact; -d 6 strict 5")
	wantLean(t, x, lits(0, 5), slices.Delete(slices.Clone(strict), 1, 2), steps("-D 6 none; +D 5 fact; -d 6 strict 5"))
	wantFault(t, x, lits(0, 5), strict, api.ErrStep, 1)
}

// TestSame: field by field.
func TestSame(t *testing.T) {
	all := steps(`+d 4 rule 1 / 1 -1 / -1 2; -d 4 rule 1 / 1 -1 / -1 2; +d 3 rule 1 / 1 -1 / -1 2; +d 4 none 1 / 1 -1 / -1 2; +d 4 rule 0 / 1 -1 / -1 2; +d 4 rule / 1 -1 / -1 2;
		+d 4 rule 1; +d 4 rule 1 / 1 -1; +d 4 rule 1 / 1 -1 / -1 2 / 0 -1; +d 4 rule 1 / -1 2 / 1 -1; +d 4 rule 1 / 0 -1 / -1 2; +d 4 rule 1 / 1 -1 / -1 3; +d 4 rule 1 / 1 -1 / 0 2; +d 4 rule 1 / 1 0 / -1 2;
		+D 0 fact; +D 0 fact / 0 0; +D 0 fact / -1 -1; +D -1 fact 0`)
	all = append(all, api.Step{}, api.Step{Rule: -1}, api.Step{Tag: 257, Lit: -1 << 62, How: -9, Rule: 1 << 62})
	for n, a := range all {
		for k, b := range all {
			a.Choices, b.Choices = slices.Clone(a.Choices), slices.Clone(b.Choices)
			if got := derive.Same(a, b); got != (n == k) {
				t.Errorf("P20.1: Same(%+v, %+v): %t", a, b, got)
			}
		}
		if len(a.Choices) == 0 {
			b := a
			a.Choices, b.Choices = nil, []api.Choice{}
			if !derive.Same(a, b) || !derive.Same(b, a) || !derive.Same(a, a) || !derive.Same(b, b) {
				t.Errorf("P20.1: Same(%+v, %+v): false", a, b)
			}
		}
	}
}

// TestNeedsOnce: what a step needs for two reasons, it needs once.
func TestNeedsOnce(t *testing.T) {
	// A literal in the body and in the body of what beats; two places, and a place and another rule's; -D of itself.
	x := from("6; 0 1 => 4; 0 2 => 4; 1 => 5; 1 2 => 5; 3 => 5; 4 # 5; 1 > 2; 1 > 3; 0 > 4")
	wantNeeds(t, x, step("+d 4 rule 0 / -1 1 / -1 1 / -1 0"), needing("+d 0, +d 1, +d 2, -D 5")...)
	wantNeeds(t, x, step("+d 4 rule 0 / 0 -1 / 0 -1 / -1 0"), needing("+d 0, +d 1, -d 1, -D 5")...)
	wantNeeds(t, x, step("+d 4 rule 1 / 0 -1 / 1 -1 / 0 -1"), needing("+d 0, -d 1, +d 2, -d 2, -d 3, -D 5")...)
	wantNeeds(t, x, step("-d 4 none / 0 -1 / 0 -1"), needing("-d 0, -D 4")...)
	wantNeeds(t, x, step("-d 5 none / 0 -1 / 0 -1 / 0 -1"), needing("-d 1, -d 3, -D 5")...)
	wantNeeds(t, x, step("-d 4 beaten 3 / 1 -1"), needing("+d 1, +d 2, -d 2, -D 4")...)
	y := from("3; 2 -> 1; 1 2 -> 1; 0 2 -> 1; 1 # 2; 1 => 1")
	wantNeeds(t, y, step("-D 1 none / 0 -1 / 1 -1 / 1 -1"), needing("-D 2")...)
	wantNeeds(t, y, step("-D 1 none / 0 -1 / 0 -1 / 0 -1"), needing("-D 0, -D 1, -D 2")...)
	// The foe that stands in the body, too: as +d, beside -D.
	wantNeeds(t, y, step("+d 1 rule 0"), needing("-D 2, +d 2")...)
	wantNeeds(t, y, step("+d 1 rule 3"), needing("+d 1, -D 2")...)
	wantNeeds(t, y, step("-d 2 beaten 1"), needing("+d 1, -D 2, +d 2")...)
	wantNeeds(t, y, step("-d 2 strict 1"), needing("+D 1, -D 2")...)
}
