package checker_test

import (
	"math"
	"slices"
	"testing"

	"lexprior/api"
	"lexprior/checker"
)

// chain: a derivation of which each step but the first two needs the one ahead; the last needs the first.
func chain() (api.Theory, []api.Step) {
	x := from("6; 0 -> 1; 1 -> 2; 2 => 3; 3 => 4; 4 # 5")
	return x, steps("-D 5 none; +D 0 fact; +D 1 rule 0; +D 2 rule 1; +d 2 strict; +d 3 rule 2; +d 4 rule 3; -d 5 none")
}

// TestNoStep: it shows nothing, of whatever theory.
func TestNoStep(t *testing.T) {
	none := modelBytes(nil)
	for _, x := range []api.Theory{{}, {Foes: [][]int{}, Rules: []api.Rule{}, Beats: [][]int{}}, village(), from("1; 0 -> 0")} {
		wantRefused(t, "no step", x, nil, none, api.ErrNone, 0)
		wantRefused(t, "no step", x, []int{}, none, api.ErrNone, 0)
		wantRefused(t, "no step, and another sum", x, nil, append(slices.Clone(none[:8]), none[8]^1), api.ErrSum, 5)
		wantRefused(t, "no step, and bytes behind", x, nil, append(slices.Clone(none), 0), api.ErrTail, 9)
		wantRefused(t, "no bytes", x, nil, nil, api.ErrShort, 0)
		wantRefused(t, "no bytes", x, nil, []byte{}, api.ErrShort, 0)
	}
	wantClaimRefused(t, "no literal", api.Theory{}, nil, steps("-D 0 none"), 0)
	wantClaimRefused(t, "no literal", from("2"), nil, steps("-D 0 none; -D 1 none; -D 2 none"), 2)
	wantClaimRefused(t, "no literal", from("2"), nil, steps("-D 4095 none"), 0)
}

// TestFirstThatDoesNotFollow: the first, one in the middle, the last; several.
func TestFirstThatDoesNotFollow(t *testing.T) {
	x, l := chain()
	wantTaken(t, "chain", x, lits(0), l)
	for at := range l {
		for _, wrong := range steps("+D 5 fact; -D 0 none; +d 5 rule; -d 3 none; +d 1 rule 2; -d 5 strict 4; -d 5 beaten 3 / 0 -1; +D 0 beaten; -d 4095 none; +D 0 rule 4095") {
			wrongs := slices.Clone(l)
			wrongs[at] = wrong
			wantClaimRefused(t, "one", x, lits(0), wrongs, at)
			wrongs[len(l)-1] = wrong
			wantClaimRefused(t, "it and the last", x, lits(0), wrongs, at)
			wantClaimRefused(t, "one more", x, lits(0), slices.Insert(slices.Clone(l), at, wrong), at)
			wantClaimRefused(t, "one behind all", x, lits(0), append(slices.Clone(l), wrong), len(l))
		}
	}
	wantClaimRefused(t, "a fact that is none", x, nil, l, 1)
	wantClaimRefused(t, "one that should be none", x, lits(0, 5), l, 0)
}

// TestOrderOfSteps: without a step the first that needs it does not follow; nor does one that stands ahead of what it needs.
func TestOrderOfSteps(t *testing.T) {
	x, l := chain()
	for at, fails := range lits(6, 2, 3, 4, 5, 6) {
		without := slices.Delete(slices.Clone(l), at, at+1)
		wantClaimRefused(t, "without one", x, lits(0), without, fails-1)
		wantClaimRefused(t, "with it behind all", x, lits(0), append(slices.Clone(without), l[at]), fails-1)
		wantClaimRefused(t, "with it behind the first that needs it", x, lits(0), slices.Insert(slices.Clone(without), fails, l[at]), fails-1)
	}
	for at := range 2 {
		wantTaken(t, "without one that nothing needs", x, lits(0), slices.Delete(slices.Clone(l), 6+at, 7+at))
	}
	turned := slices.Clone(l)
	slices.Reverse(turned)
	wantClaimRefused(t, "turned round", x, lits(0), turned, 0)
	y := from("2; 1 -> 0; 0 -> 1; 1 => 0; 0 => 1")
	for _, circle := range []string{"+D 0 rule 0; +D 1 rule 1", "-D 0 none / 0 -1; -D 1 none / 0 -1", "+d 0 rule 2; +d 1 rule 3", "-d 0 none / 0 -1 / 0 -1"} {
		wantClaimRefused(t, "by each other", y, nil, steps(circle), 0)
	}
	wantClaimRefused(t, "by itself", from("1; 0 => 0"), nil, steps("-D 0 none; +d 0 rule 0"), 1)
	wantClaimRefused(t, "by itself", from("1; 0 => 0"), nil, steps("-D 0 none; -d 0 none / 0 -1"), 1)
	// What a refused call has heard is forgotten.
	wantTaken(t, "chain", x, lits(0), l)
	wantClaimRefused(t, "behind it", x, lits(0), l[2:], 0)
}

// TestEachBeginningOfSteps: shows what its own last step says, and as many as it has.
func TestEachBeginningOfSteps(t *testing.T) {
	x, l := chain()
	for n := range l {
		wantTaken(t, "a beginning", x, lits(0), l[:n+1])
	}
	// What was said ahead may be said again, by the same or another step.
	twice := slices.Concat(l, l[:3], l)
	wantTaken(t, "twice", x, lits(0), twice)
	y := from("1; 0 -> 0; => 0")
	wantTaken(t, "by two ways", y, lits(0), steps("+D 0 fact; +D 0 rule 0; +d 0 strict; +d 0 rule 1; +D 0 fact"))
}

// TestAccepts: just the claim of the last step.
func TestAccepts(t *testing.T) {
	x, l := chain()
	for n := range l {
		b := modelBytes(l[:n+1])
		for _, lit := range append(badLits(6), upTo(7)...) {
			for _, tag := range append(badTags(), tags...) {
				want := lit == l[n].Lit && tag == l[n].Tag
				if got := checker.Accepts(x, lits(0), b, lit, tag); got != want {
					t.Errorf("P22.1: Accepts(%s, %d, %d): %t", told(l[:n+1]), lit, tag, got)
				}
				if checker.Accepts(x, nil, b, lit, tag) && n > 0 {
					t.Errorf("P22.6: without facts: Accepts(%s, %d, %d)", told(l[:n+1]), lit, tag)
				}
				if checker.Accepts(x, lits(0), b[:len(b)-1], lit, tag) || checker.Accepts(x, lits(6), b, lit, tag) || checker.Accepts(api.Theory{Lits: -1}, nil, b, lit, tag) {
					t.Errorf("P22.1: Accepts(.., %d, %d) of what Check refuses", lit, tag)
				}
			}
		}
	}
	// A refused call has a claim of nothing; no literal and tag are taken for it.
	for _, b := range [][]byte{nil, modelBytes(nil), modelBytes(steps("+D 1 fact"))} {
		for tag := api.Tag(-1); tag < 6; tag++ {
			if checker.Accepts(x, lits(0), b, 0, tag) {
				t.Errorf("P22.1: Accepts(%s, 0, %d)", digits(b), tag)
			}
		}
	}
}

// TestShown: a tag that is said twice is there once; of a literal that no step names there is none.
func TestShown(t *testing.T) {
	shown := func(x api.Theory, facts []int, l []api.Step, want ...api.Marks) {
		t.Helper()
		if said, errno, at := checker.Shown(x, facts, modelBytes(l)); errno != api.OK || at != 0 || !slices.Equal(said, want) {
			t.Errorf("P22.1: Shown(%s, %v, %s): %v, %d, %d, want %v", told(x), facts, told(l), said, errno, at, want)
		}
	}
	x, l := chain()
	shown(x, lits(0), l, 1, 1, 5, 4, 4, 10)
	shown(x, lits(0), slices.Concat(l, l, l[:1]), 1, 1, 5, 4, 4, 10)
	shown(x, lits(0), l[:1], 0, 0, 0, 0, 0, 2)
	shown(x, lits(0), l[1:3], 1, 1, 0, 0, 0, 0)
	shown(x, nil, steps("-D 3 none; -D 3 none"), 0, 0, 0, 2, 0, 0)
	shown(x, lits(0, 1, 2, 3, 4, 5), steps("+D 5 fact; +D 2 fact; +d 2 strict; +d 2 strict"), 0, 0, 5, 0, 0, 1)
	shown(from("1; => 0"), nil, steps("-D 0 none; +d 0 rule 0"), 6)
}

// TestCertify: each tag that holds, and no other.
func TestCertify(t *testing.T) {
	just := func(text string, facts []int, want ...api.Marks) {
		t.Helper()
		x := from(text)
		for lit := range x.Lits {
			for _, tag := range tags {
				if want[lit]>>(tag-1)&1 == 1 {
					certified(t, x, facts, lit, tag)
				} else {
					wantCertifyRefused(t, x, facts, lit, tag, api.ErrNone)
				}
			}
		}
		if slices.Max(want) == 0 {
			wantWholeRefused(t, x, facts, api.ErrNone)
		} else {
			wantWhole(t, x, facts, want)
		}
	}
	just("1", nil, 10)
	just("1", lits(0), 5)
	just("1; -> 0", nil, 5)
	just("1; => 0", nil, 6)
	just("1; ~> 0", nil, 10)
	just("1; 0 => 0", nil, 2)
	just("1; 0 -> 0", nil, 0)
	just("1; 0 -> 0", lits(0), 5)
	just("1; 0 -> 0; => 0", nil, 4)
	just("2; 0 -> 0", nil, 0, 10)
	just("3; 0 -> 1; 1 -> 2; 2 -> 0", nil, 0, 0, 0)
	just("2; 0 -> 1; 0 # 1", lits(0), 5, 5)
	just("2; => 1; 0 # 1", lits(0), 5, 10)
	just("2; ~> 0; => 1; 0 # 1", nil, 10, 10)
	just("2; ~> 0; => 1; 0 # 1; 1 > 0", nil, 10, 6)
	just("6; 0 -> 1; 1 -> 2; 2 => 3; 3 => 4; 4 # 5", lits(0), 5, 5, 5, 6, 6, 10)
	just("6; 0 -> 1; 1 -> 2; 2 => 3; 3 => 4; 4 # 5", nil, 10, 10, 10, 10, 10, 10)
}

// TestWholeOfNothing: no literal, and literals of which nothing can be told.
func TestWholeOfNothing(t *testing.T) {
	for _, x := range []api.Theory{{}, {Foes: [][]int{}, Rules: []api.Rule{}, Beats: [][]int{}}, from("1; 0 -> 0"), from("3; 0 -> 1; 1 -> 2; 2 -> 0"), from("2; 0 -> 0; 1 -> 1; 0 # 1; => 0; => 1; 2 > 3")} {
		wantWholeRefused(t, x, nil, api.ErrNone)
		wantWholeRefused(t, x, []int{}, api.ErrNone)
		wantWholeRefused(t, x, lits(-1), api.ErrFact)
		wantWholeRefused(t, x, lits(x.Lits), api.ErrFact)
		for lit := range x.Lits {
			for _, tag := range tags {
				wantCertifyRefused(t, x, nil, lit, tag, api.ErrNone)
			}
		}
	}
}

// TestOddNumbers: of literals and tags that are none, the greatest, or like some when they are cut down.
func TestOddNumbers(t *testing.T) {
	x := from("1; => 0")
	b := certified(t, x, nil, 0, api.PlusPartial)
	for _, n := range lits(math.MinInt, math.MinInt32, -1, 1, 4095, 4096, 1<<32, 1<<32+3, math.MaxInt) {
		if checker.Accepts(x, nil, b, n, api.PlusPartial) || checker.Accepts(x, nil, b, 0, api.Tag(n)) {
			t.Errorf("P22.1: Accepts(.., %d)", n)
		}
	}
}
