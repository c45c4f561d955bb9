package fast_test

import (
	"testing"

	"lexprior/api"
)

func TestNothingMuch(t *testing.T) {
	wantAllOf(t, api.Theory{}, nil, nil)
	wantAllOf(t, api.Theory{Foes: [][]int{}, Rules: []api.Rule{}, Beats: [][]int{}}, []int{}, nil)
	wantDiffer(t, api.Theory{}, nil, []int{}, nil)

	wantAllOf(t, plain(3), nil, marks(lost, lost, lost))
	wantAllOf(t, plain(3), lits(1), marks(lost, held, lost))
	wantAllOf(t, plain(3), upTo(3), marks(held, held, held))
	wantAllOf(t, from("3; 0 # 1 # 2"), lits(1), marks(lost, held, lost))
}

// TestKinds: each with an empty body, with one that holds, with one that is refuted, with one that is not known.
func TestKinds(t *testing.T) {
	wantAllOf(t, from("1; -> 0"), nil, marks(held))
	wantAllOf(t, from("1; => 0"), nil, marks(won))
	wantAllOf(t, from("1; ~> 0"), nil, marks(lost))
	wantAllOf(t, from("2; 1 -> 0"), lits(1), marks(held, held))
	wantAllOf(t, from("2; 1 => 0"), lits(1), marks(won, held))
	wantAllOf(t, from("2; 1 ~> 0"), lits(1), marks(lost, held))
	for _, arrow := range []string{"->", "=>", "~>"} {
		wantAllOf(t, from("2; 1 "+arrow+" 0"), nil, marks(lost, lost))
	}
	wantAllOf(t, from("2; 1 -> 0; 1 => 1"), nil, marks(open, open))
	wantAllOf(t, from("2; 1 -> 0; 1 -> 1"), nil, marks(none, none))
	wantAllOf(t, from("2; 1 => 0; 1 => 1"), nil, marks(open, open))
	wantAllOf(t, from("2; 1 ~> 0; 1 => 1"), nil, marks(lost, open))
	// A strict rule whose body has but +d.
	wantAllOf(t, from("2; => 0; 0 -> 1"), nil, marks(won, won))
	// The one rule does what the other can't.
	wantAllOf(t, from("3; 1 -> 0; 2 -> 0"), lits(2), marks(held, lost, held))
	wantAllOf(t, from("3; 1 -> 0; 2 => 0"), lits(2), marks(won, lost, held))
	wantAllOf(t, from("3; 1 -> 0; 2 => 0"), lits(1), marks(held, held, lost))
	wantAllOf(t, from("3; 1 -> 0; 2 => 0"), nil, marks(lost, lost, lost))
	wantAllOf(t, from("3; 1 -> 0; => 0; ~> 0; 2 => 0"), nil, marks(won, lost, lost))
	wantAllOf(t, from("3; -> 0; 1 -> 0; 2 => 0"), nil, marks(held, lost, lost))
	// Facts need no rules, and lose nothing by them.
	wantAllOf(t, from("2; 1 -> 0; 1 => 0; 1 ~> 0"), lits(0), marks(held, lost))
}

// TestBodies: a whole body, and one of it that is refuted, first or last.
func TestBodies(t *testing.T) {
	for _, arrow := range []string{"->", "=>"} {
		x := from("4; 0 1 2 " + arrow + " 3")
		all := won
		if arrow == "->" {
			all = held
		}
		wantAllOf(t, x, lits(0, 1, 2), marks(held, held, held, all))
		wantAllOf(t, x, lits(1, 2), marks(lost, held, held, lost))
		wantAllOf(t, x, lits(0, 2), marks(held, lost, held, lost))
		wantAllOf(t, x, lits(0, 1), marks(held, held, lost, lost))
		wantAllOf(t, x, nil, marks(lost, lost, lost, lost))
	}
	// What is refuted in the body counts, though the rest is not known; what holds does not.
	wantAllOf(t, from("3; 0 1 => 2; 0 => 0"), nil, marks(open, lost, lost))
	wantAllOf(t, from("3; 0 1 => 2; 0 => 0"), lits(1), marks(open, held, open))
	wantAllOf(t, from("3; 0 1 -> 2; 0 -> 0"), nil, marks(none, lost, lost))
	wantAllOf(t, from("3; 0 1 -> 2; 0 -> 0"), lits(1), marks(none, held, none))
}

// TestWithoutRules: a literal that is no fact and has no rules has -D and -d, whatever stands beside it; defeaters are no rules for it.
func TestWithoutRules(t *testing.T) {
	wantAllOf(t, from("3; => 1; 0 # 1"), lits(2), marks(lost, won, held))
	wantAllOf(t, from("3; 0 => 1; 0 # 1"), lits(2), marks(lost, lost, held))
	wantAllOf(t, from("3; 0 -> 0; 0 # 1 # 2"), nil, marks(none, lost, lost))
	wantAllOf(t, from("2; 1 ~> 0; 0 ~> 1"), nil, marks(lost, lost))
}

// TestRings: what waits for itself alone has no tag by it.
func TestRings(t *testing.T) {
	wantAllOf(t, from("1; 0 => 0"), nil, marks(open))
	wantAllOf(t, from("1; 0 => 0"), lits(0), marks(held))
	wantAllOf(t, from("1; 0 -> 0"), nil, marks(none))
	wantAllOf(t, from("1; 0 -> 0"), lits(0), marks(held))
	wantAllOf(t, from("1; 0 ~> 0"), nil, marks(lost))
	wantAllOf(t, from("3; 0 => 1; 1 => 2; 2 => 0"), nil, marks(open, open, open))
	wantAllOf(t, from("3; 0 => 1; 1 -> 2; 2 => 0"), nil, marks(open, open, open))
	wantAllOf(t, from("3; 0 -> 1; 1 -> 2; 2 -> 0"), nil, marks(none, none, none))
	wantAllOf(t, from("3; 0 => 1; 1 => 2; 2 => 0"), lits(1), marks(won, held, won))
	// A way in: used, refuted, waiting.
	wantAllOf(t, from("3; 0 => 1; 1 => 0; 2 => 0"), lits(2), marks(won, won, held))
	wantAllOf(t, from("3; 0 => 1; 1 => 0; 2 => 0"), nil, marks(open, open, lost))
	wantAllOf(t, from("3; 0 => 1; 1 => 0; 2 => 0; 2 => 2"), nil, marks(open, open, open))
	// A refuted literal in the ring refutes all of it.
	wantAllOf(t, from("3; 0 2 => 1; 1 => 0"), nil, marks(lost, lost, lost))
	// A ring of strict rules leaves -D open, and yet +d may come; its foe waits for -D then.
	wantAllOf(t, from("1; 0 -> 0; => 0"), nil, marks(loose))
	wantAllOf(t, from("2; 0 -> 0; => 1; 0 # 1"), nil, marks(none, open))
	wantAllOf(t, from("2; 0 -> 0; => 1; 0 # 1; 1 > 0"), nil, marks(none, open))
	// What has +d, but neither +D nor -D, lets its user follow so, too.
	wantAllOf(t, from("2; 0 -> 0; => 0; 0 -> 1"), nil, marks(loose, loose))
	wantAllOf(t, from("2; 0 -> 0; => 0; 0 => 1"), nil, marks(loose, won))
	// Rings through a foe's rule: 1 waits till the rule for 0 is refuted, which waits for 1.
	wantAllOf(t, from("2; 1 => 0; => 1; 0 # 1"), nil, marks(lost, open))
	wantAllOf(t, from("2; 1 => 0; => 1; 0 # 1; 1 > 0"), nil, marks(lost, won))
	wantAllOf(t, from("2; 1 => 0; => 1; 0 # 1; 0 > 1"), nil, marks(open, open))
	wantAllOf(t, from("2; 1 => 0; 0 => 1; 0 # 1"), nil, marks(open, open))
}

// TestFoes: facts against facts, against rules, against nothing.
func TestFoes(t *testing.T) {
	// Two foes that are both facts hold both.
	wantAllOf(t, from("2; 0 # 1"), lits(0, 1), marks(held, held))
	wantAllOf(t, from("2; => 0; 0 # 1; => 1; 0 > 1"), lits(0, 1), marks(held, held))
	// One that is a fact refutes the other, however strong its rule is, unless that is strict.
	wantAllOf(t, from("2; => 0; => 1; 0 # 1; 0 > 1"), lits(1), marks(lost, held))
	wantAllOf(t, from("2; => 0; 0 # 1"), lits(1), marks(lost, held))
	wantAllOf(t, from("2; -> 0; => 1; 0 # 1"), lits(1), marks(held, held))
	wantAllOf(t, from("2; -> 0; => 1; 0 # 1; 1 > 0"), nil, marks(held, lost))
	wantAllOf(t, from("3; 2 -> 0; => 1; 0 # 1; 1 > 0"), nil, marks(lost, won, lost))
	// A foe comes to have +D, and to have -D, behind the beginning.
	wantAllOf(t, from("3; 2 -> 0; => 1; 0 # 1; 1 > 0"), lits(2), marks(held, lost, held))
	wantAllOf(t, from("4; 2 -> 0; 3 -> 1; 0 # 1"), lits(2, 3), marks(held, held, held, held))
	wantAllOf(t, from("4; 2 -> 0; 3 -> 1; 0 # 1"), lits(3), marks(lost, held, lost, held))
	wantAllOf(t, from("5; 2 -> 0; 4 -> 2; 3 -> 1; 0 # 1"), lits(3), marks(lost, held, lost, held, lost))
	// Of +D of a foe nothing follows while -D is not there.
	wantAllOf(t, from("2; => 0; 0 -> 0; 0 # 1"), lits(1), marks(none, held))
	wantAllOf(t, from("2; 0 -> 0; 0 # 1"), lits(1), marks(none, held))
	// A strict rule whose body holds but defeasibly is one among others.
	wantAllOf(t, from("3; 2 -> 0; => 1; => 2; 0 # 1"), nil, marks(lost, lost, won))
	wantAllOf(t, from("3; 2 -> 0; => 1; => 2; 0 # 1; 0 > 1"), nil, marks(won, lost, won))
	wantAllOf(t, from("3; 2 -> 0; => 1; => 2; 0 # 1; 1 > 0"), nil, marks(lost, won, won))
	// Foes without rules.
	wantAllOf(t, from("3; => 0; 0 # 1 # 2"), nil, marks(won, lost, lost))
	// With rules that cannot be used any more.
	wantAllOf(t, from("3; => 0; 2 => 1; 0 # 1"), nil, marks(won, lost, lost))
	wantAllOf(t, from("3; => 0; 2 => 1; 0 # 1"), lits(2), marks(lost, lost, held))
	wantAllOf(t, from("3; => 0; 2 => 1; 0 # 1; 1 > 0"), lits(2), marks(lost, won, held))
	// A defeater wins nothing, but keeps off.
	wantAllOf(t, from("2; => 0; ~> 1; 0 # 1"), nil, marks(lost, lost))
	wantAllOf(t, from("2; => 0; ~> 1; 0 # 1; 0 > 1"), nil, marks(won, lost))
	wantAllOf(t, from("2; => 0; ~> 1; 0 # 1; 1 > 0"), nil, marks(lost, lost))
	wantAllOf(t, from("3; 2 => 0; ~> 1; 0 # 1"), lits(2), marks(lost, lost, held))
	wantAllOf(t, from("3; => 0; 2 ~> 1; 0 # 1"), lits(2), marks(lost, lost, held))
	wantAllOf(t, from("3; => 0; 2 ~> 1; 0 # 1"), nil, marks(won, lost, lost))
	// A defeater of the literal's own does not defend it.
	wantAllOf(t, from("2; => 0; => 1; ~> 0; 0 # 1; 2 > 1"), nil, marks(lost, lost))
	wantAllOf(t, from("3; => 0; => 1; 2 ~> 0; 0 # 1; 2 > 1"), lits(2), marks(lost, lost, held))
	// Foes of foes do not matter.
	wantAllOf(t, from("3; => 0; => 2; 0 # 1; 1 # 2"), nil, marks(won, lost, won))
}

// TestTeams: a foe's rule is beaten by one rule of the team, by another one for each, by none, by a rule of another team.
func TestTeams(t *testing.T) {
	x := from("6; 2 => 0; 3 => 0; 4 => 1; 5 => 1; 0 # 1; 0 > 2; 1 > 3")
	wantAllOf(t, x, lits(2, 3, 4, 5), marks(won, lost, held, held, held, held))
	wantAllOf(t, x, lits(2, 4, 5), marks(lost, lost, held, lost, held, held))
	wantAllOf(t, x, lits(2, 4), marks(won, lost, held, lost, held, lost))
	wantAllOf(t, x, lits(3, 4), marks(lost, lost, lost, held, held, lost))
	wantAllOf(t, x, lits(4, 5), marks(lost, won, lost, lost, held, held))
	x.Beats[1] = nil
	wantAllOf(t, x, lits(2, 3, 4, 5), marks(lost, lost, held, held, held, held))
	// Two of the team beat the same one.
	x = from("4; 2 => 0; 3 => 0; => 1; 0 # 1; 0 > 2; 1 > 2")
	wantAllOf(t, x, lits(2, 3), marks(won, lost, held, held))
	wantAllOf(t, x, lits(2), marks(won, lost, held, lost))
	wantAllOf(t, x, lits(3), marks(won, lost, lost, held))
	wantAllOf(t, x, nil, marks(lost, won, lost, lost))
	// Three foes: what beats the one does not beat the other.
	wantAllOf(t, from("3; => 0; => 1; => 2; 0 # 1 # 2; 0 > 1; 1 > 2"), nil, marks(lost, lost, lost))
	wantAllOf(t, from("3; => 0; => 1; => 2; 0 # 1 # 2; 0 > 1; 0 > 2; 1 > 2"), nil, marks(won, lost, lost))
	// The team's rule that beats is refuted, and another one leads on.
	wantAllOf(t, from("3; => 0; 2 => 0; => 1; 0 # 1; 1 > 2"), nil, marks(lost, lost, lost))
	wantAllOf(t, from("3; => 0; 2 => 0; => 1; 0 # 1; 1 > 2"), lits(2), marks(won, lost, held))
}

// TestUnknownBodies: a rule that beats one whose body is not known, and one that is not known itself.
func TestUnknownBodies(t *testing.T) {
	wantAllOf(t, from("3; => 0; 2 => 1; 2 => 2; 0 # 1; 0 > 1"), nil, marks(won, lost, open))
	wantAllOf(t, from("3; => 0; 2 => 1; 2 => 2; 0 # 1"), nil, marks(open, lost, open))
	wantAllOf(t, from("4; 3 => 0; 2 => 1; 2 => 2; 0 # 1; 0 > 1"), lits(3), marks(won, lost, open, held))
	// The one that beats is not known: neither holds it off, nor does it let it.
	wantAllOf(t, from("3; 2 => 0; => 1; 2 => 2; 0 # 1; 0 > 1"), nil, marks(open, open, open))
	wantAllOf(t, from("3; 2 => 0; => 1; 2 => 2; 0 # 1"), nil, marks(lost, open, open))
	wantAllOf(t, from("3; => 0; 2 => 0; => 1; 2 => 2; 0 # 1; 1 > 2"), nil, marks(open, lost, open))
}

// TestReasonsAheadOfMinusDelta: a literal could lose long before its -D is there; with it it does.
func TestReasonsAheadOfMinusDelta(t *testing.T) {
	late := "7; 2 -> 0; 3 -> 2; 4 -> 3; "
	// A foe's rule without any that beats it; one that beats it is refuted.
	wantAllOf(t, from(late+"=> 0; => 1; 0 # 1"), nil, marks(lost, lost, lost, lost, lost, lost, lost))
	wantAllOf(t, from(late+"=> 0; 5 => 0; => 1; 0 # 1; 4 > 5"), nil, marks(lost, lost, lost, lost, lost, lost, lost))
	wantAllOf(t, from(late+"=> 0; 5 => 0; => 1; 0 # 1; 4 > 5"), lits(5), marks(won, lost, lost, lost, lost, held, lost))
	// A foe's rule that comes to be used.
	wantAllOf(t, from(late+"=> 0; 5 => 1; 0 # 1"), lits(5), marks(lost, lost, lost, lost, lost, held, lost))
	// A foe that has +D, at the beginning or behind it.
	wantAllOf(t, from(late+"=> 0; 0 # 1"), lits(1), marks(lost, held, lost, lost, lost, lost, lost))
	wantAllOf(t, from(late+"=> 0; 5 -> 1; 0 # 1"), lits(5), marks(lost, held, lost, lost, lost, held, lost))
	// +d is there ahead of -D.
	wantAllOf(t, from(late+"=> 0"), nil, marks(won, lost, lost, lost, lost, lost, lost))
	wantAllOf(t, from(late+"5 => 0; => 1; 0 # 1; 3 > 4"), lits(5), marks(won, lost, lost, lost, lost, held, lost))
}

// TestChains: with a fact at their begin and without one, in both orders of numbers.
func TestChains(t *testing.T) {
	wantAllOf(t, from("4; 0 => 1; 1 => 2; 2 => 3"), lits(0), marks(held, won, won, won))
	wantAllOf(t, from("4; 0 => 1; 1 => 2; 2 => 3"), lits(1), marks(lost, held, won, won))
	wantAllOf(t, from("4; 0 => 1; 1 => 2; 2 => 3"), nil, marks(lost, lost, lost, lost))
	wantAllOf(t, from("4; 3 => 2; 2 => 1; 1 => 0"), lits(3), marks(won, won, won, held))
	wantAllOf(t, from("4; 0 -> 1; 1 -> 2; 2 -> 3"), lits(0), marks(held, held, held, held))
	wantAllOf(t, from("4; 0 -> 1; 1 -> 2; 2 -> 3"), nil, marks(lost, lost, lost, lost))
	wantAllOf(t, from("4; => 0; 0 -> 1; 1 -> 2; 2 -> 3"), nil, marks(won, won, won, won))
	wantAllOf(t, from("4; 0 -> 1; 1 => 2; 2 -> 3"), lits(0), marks(held, held, won, won))
	wantAllOf(t, from("4; 0 => 1; 1 ~> 2; 2 => 3"), lits(0), marks(held, won, lost, lost))
}
