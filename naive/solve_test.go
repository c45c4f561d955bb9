package naive_test

import (
	"testing"

	"lexprior/api"
)

func TestNothingMuch(t *testing.T) {
	wantSolved(t, api.Theory{}, nil, 0, nil)
	wantSolved(t, api.Theory{Foes: [][]int{}, Rules: []api.Rule{}, Beats: [][]int{}}, []int{}, 0, nil)
	wantRound(t, api.Theory{}, nil, nil, nil)
	wantRound(t, api.Theory{}, []int{}, []api.Marks{}, nil)

	// Without rules facts have +D, all else -D; what follows of that comes a round later.
	wantSolved(t, plain(3), nil, 2, marks(lost, lost, lost))
	wantSolved(t, plain(3), lits(1), 2, marks(lost, held, lost))
	wantSolved(t, plain(3), upTo(3), 2, marks(held, held, held))
	wantRound(t, plain(3), lits(1), marks(none, none, none), marks(open, "+D", open))
}

// TestWithoutRules: a literal that is no fact and has no rules has -D and -d, whatever stands beside it; defeaters are no rules for it.
func TestWithoutRules(t *testing.T) {
	wantSolved(t, from("3; => 1; 0 # 1"), lits(2), 2, marks(lost, won, held))
	wantSolved(t, from("3; 0 => 1; 0 # 1"), lits(2), 3, marks(lost, lost, held))
	wantSolved(t, from("3; 0 -> 0; 0 # 1 # 2"), nil, 2, marks(none, lost, lost))
	wantSolved(t, from("1; ~> 0"), nil, 2, marks(lost))
	wantSolved(t, from("2; 1 ~> 0; 0 ~> 1"), nil, 2, marks(lost, lost))
}

// TestRings: what waits for itself alone has no tag by it.
func TestRings(t *testing.T) {
	wantSolved(t, from("1; 0 => 0"), lits(0), 2, marks(held))
	wantSolved(t, from("1; 0 -> 0"), nil, 0, marks(none))
	wantSolved(t, from("1; 0 -> 0"), lits(0), 2, marks(held))
	wantSolved(t, from("1; 0 ~> 0"), nil, 2, marks(lost))
	wantSolved(t, from("3; 0 => 1; 1 => 2; 2 => 0"), nil, 1, marks(open, open, open))
	wantSolved(t, from("3; 0 => 1; 1 -> 2; 2 => 0"), nil, 2, marks(open, open, open))
	wantSolved(t, from("3; 0 => 1; 1 => 2; 2 => 0"), lits(1), 4, marks(won, held, won))
	// A way in: used, refuted, waiting.
	wantSolved(t, from("3; 0 => 1; 1 => 0; 2 => 0"), lits(2), 4, marks(won, won, held))
	wantSolved(t, from("3; 0 => 1; 1 => 0; 2 => 0"), nil, 2, marks(open, open, lost))
	wantSolved(t, from("3; 0 => 1; 1 => 0; 2 => 0; 2 => 2"), nil, 1, marks(open, open, open))
	// A refuted literal in the ring refutes all of it.
	wantSolved(t, from("3; 0 2 => 1; 1 => 0"), nil, 4, marks(lost, lost, lost))
	// A ring of strict rules leaves -D open, and yet +d may come; its foe waits for -D then.
	wantSolved(t, from("1; 0 -> 0; => 0"), nil, 1, marks("+d"))
	wantSolved(t, from("2; 0 -> 0; => 1; 0 # 1"), nil, 1, marks(none, open))
	// Rings through a foe's rule: 1 waits till the rule for 0 is refuted, which waits for 1.
	wantSolved(t, from("2; 1 => 0; => 1; 0 # 1"), nil, 2, marks(lost, open))
	wantSolved(t, from("2; 1 => 0; => 1; 0 # 1; 1 > 0"), nil, 2, marks(lost, won))
	wantSolved(t, from("2; 1 => 0; => 1; 0 # 1; 0 > 1"), nil, 1, marks(open, open))
	wantSolved(t, from("2; 1 => 0; 0 => 1; 0 # 1"), nil, 1, marks(open, open))
}

// TestFoes: facts against facts, against rules, against nothing.
func TestFoes(t *testing.T) {
	// Two foes that are both facts hold both.
	wantSolved(t, from("2; 0 # 1"), lits(0, 1), 2, marks(held, held))
	wantSolved(t, from("2; => 0; 0 # 1; => 1; 0 > 1"), lits(0, 1), 2, marks(held, held))
	// One that is a fact refutes the other, however strong its rule is, unless that is strict.
	wantSolved(t, from("2; => 0; => 1; 0 # 1; 0 > 1"), lits(1), 2, marks(lost, held))
	wantSolved(t, from("2; -> 0; => 1; 0 # 1"), lits(1), 2, marks(held, held))
	wantSolved(t, from("2; -> 0; => 1; 0 # 1; 1 > 0"), nil, 2, marks(held, lost))
	wantSolved(t, from("3; 2 -> 0; => 1; 0 # 1; 1 > 0"), nil, 3, marks(lost, won, lost))
	// A strict rule whose body holds but defeasibly is one among others.
	wantSolved(t, from("3; 2 -> 0; => 1; => 2; 0 # 1"), nil, 3, marks(lost, lost, won))
	wantSolved(t, from("3; 2 -> 0; => 1; => 2; 0 # 1; 0 > 1"), nil, 2, marks(won, lost, won))
	wantSolved(t, from("3; 2 -> 0; => 1; => 2; 0 # 1; 1 > 0"), nil, 3, marks(lost, won, won))
	// Foes without rules.
	wantSolved(t, from("3; => 0; 0 # 1 # 2"), nil, 2, marks(won, lost, lost))
	// With rules that cannot be used any more.
	wantSolved(t, from("3; => 0; 2 => 1; 0 # 1"), nil, 3, marks(won, lost, lost))
	wantSolved(t, from("3; => 0; 2 => 1; 0 # 1"), lits(2), 3, marks(lost, lost, held))
	wantSolved(t, from("3; => 0; 2 => 1; 0 # 1; 1 > 0"), lits(2), 3, marks(lost, won, held))
	// A defeater wins nothing, but keeps off.
	wantSolved(t, from("2; => 0; ~> 1; 0 # 1"), nil, 2, marks(lost, lost))
	wantSolved(t, from("2; => 0; ~> 1; 0 # 1; 0 > 1"), nil, 2, marks(won, lost))
	wantSolved(t, from("2; => 0; ~> 1; 0 # 1; 1 > 0"), nil, 2, marks(lost, lost))
	// A defeater of the literal's own does not defend it.
	wantSolved(t, from("2; => 0; => 1; ~> 0; 0 # 1; 2 > 1"), nil, 2, marks(lost, lost))
}

// TestUnknownBodies: a rule that beats one whose body is not known.
func TestUnknownBodies(t *testing.T) {
	wantSolved(t, from("3; => 0; 2 => 1; 2 => 2; 0 # 1; 0 > 1"), nil, 2, marks(won, lost, open))
	wantSolved(t, from("3; => 0; 2 => 1; 2 => 2; 0 # 1"), nil, 2, marks(open, lost, open))
	// The one that beats is not known: neither holds it off, nor does it let it.
	wantSolved(t, from("3; 2 => 0; => 1; 2 => 2; 0 # 1; 0 > 1"), nil, 1, marks(open, open, open))
	wantSolved(t, from("3; 2 => 0; => 1; 2 => 2; 0 # 1"), nil, 2, marks(lost, open, open))
}

// TestRoundsGoOn: what one round brings is asked by the next.
func TestRoundsGoOn(t *testing.T) {
	x := from("4; 0 => 1; 1 => 2; 2 => 3")
	wantSolved(t, x, lits(0), 5, marks(held, won, won, won))
	wantSolved(t, x, nil, 5, marks(lost, lost, lost, lost))
	wantSolved(t, from("4; 3 => 2; 2 => 1; 1 => 0"), lits(3), 5, marks(won, won, won, held))
	for _, step := range []struct{ was, now []api.Marks }{
		{marks(none, none, none, none), marks("+D", open, open, open)},
		{marks("+D", open, open, open), marks(held, open, open, open)},
		{marks(held, open, open, open), marks(held, won, open, open)},
		{marks(held, won, open, open), marks(held, won, won, open)},
	} {
		wantRound(t, x, lits(0), step.was, step.now)
	}
	// Within a round nothing leads on, in neither order of literals and rules, nor from +D to +d.
	x = from("3; 0 -> 1; 1 -> 2")
	wantRound(t, x, lits(0), marks(none, none, none), marks("+D", none, none))
	wantRound(t, x, lits(0), marks("+D", none, none), marks(held, "+D", none))
	wantRound(t, from("3; 2 -> 1; 1 -> 0"), nil, marks(none, none, none), marks(none, none, open))
	wantSolved(t, x, lits(0), 4, marks(held, held, held))
	wantSolved(t, x, nil, 4, marks(lost, lost, lost))
}
