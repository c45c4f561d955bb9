package variants_test

import (
	"testing"

	"lexprior/api"
)

func TestNothingMuch(t *testing.T) {
	wantAlike(t, api.Theory{}, nil, nil)
	wantAlike(t, api.Theory{Foes: [][]int{}, Rules: []api.Rule{}, Beats: [][]int{}}, []int{}, nil)
	wantAlike(t, plain(3), nil, marks(lost, lost, lost))
	wantAlike(t, plain(3), lits(1), marks(lost, held, lost))
	wantAlike(t, plain(3), upTo(3), marks(held, held, held))
	wantAlike(t, from("3; 0 # 1 # 2"), nil, marks(lost, lost, lost))
	wantAlike(t, from("3; 0 # 1 # 2"), lits(1), marks(lost, held, lost))
}

// TestKinds: each with an empty body, with one that holds, with one that is refuted, with one that is not known.
func TestKinds(t *testing.T) {
	wantAlike(t, from("1; -> 0"), nil, marks(held))
	wantAlike(t, from("1; => 0"), nil, marks(won))
	wantAlike(t, from("1; ~> 0"), nil, marks(lost))
	wantAlike(t, from("2; 1 -> 0"), lits(1), marks(held, held))
	wantAlike(t, from("2; 1 => 0"), lits(1), marks(won, held))
	wantAlike(t, from("2; 1 ~> 0"), lits(1), marks(lost, held))
	for _, arrow := range []string{"->", "=>", "~>"} {
		wantAlike(t, from("2; 1 "+arrow+" 0"), nil, marks(lost, lost))
	}
	wantAlike(t, from("2; 1 -> 0; 1 => 1"), nil, marks(open, open))
	wantAlike(t, from("2; 1 -> 0; 1 -> 1"), nil, marks(none, none))
	wantAlike(t, from("2; 1 => 0; 1 => 1"), nil, marks(open, open))
	wantAlike(t, from("2; 1 ~> 0; 1 => 1"), nil, marks(lost, open))
	// A strict rule whose body holds, but has no +D.
	wantAlike(t, from("2; => 0; 0 -> 1"), nil, marks(won, won))
	// The one rule does what the other can't.
	wantAlike(t, from("3; 1 -> 0; 2 -> 0"), lits(2), marks(held, lost, held))
	wantAlike(t, from("3; 1 -> 0; 2 => 0"), lits(2), marks(won, lost, held))
	wantAlike(t, from("3; 1 -> 0; 2 => 0"), nil, marks(lost, lost, lost))
	wantAlike(t, from("3; 1 -> 0; => 0; ~> 0; 2 => 0"), nil, marks(won, lost, lost))
	// Facts need no rules, and lose nothing by them.
	wantAlike(t, from("2; 1 -> 0; 1 => 0; 1 ~> 0"), lits(0), marks(held, lost))
}

// TestBodies: a whole body, and one of it that is refuted, first or last.
func TestBodies(t *testing.T) {
	for _, arrow := range []string{"->", "=>"} {
		x := from("4; 0 1 2 " + arrow + " 3")
		all := won
		if arrow == "->" {
			all = held
		}
		wantAlike(t, x, lits(0, 1, 2), marks(held, held, held, all))
		wantAlike(t, x, lits(1, 2), marks(lost, held, held, lost))
		wantAlike(t, x, lits(0, 2), marks(held, lost, held, lost))
		wantAlike(t, x, lits(0, 1), marks(held, held, lost, lost))
		wantAlike(t, x, nil, marks(lost, lost, lost, lost))
	}
	// One literal that is doubtful is enough.
	x := from("4; => 0; => 1; 0 2 => 3; 0 # 1")
	wantDefeasible(t, x, lits(2), marks(lost, lost, held, lost))
	wantLogics(t, x, lits(2), marks(lost, lost, held, lost), marks(won, won, held, won))
	wantLogics(t, x, nil, marks(lost, lost, lost, lost), marks(won, won, lost, lost))
}

// TestRings: what waits for itself alone has no tag by it.
func TestRings(t *testing.T) {
	wantAlike(t, from("1; 0 => 0"), nil, marks(open))
	wantAlike(t, from("1; 0 => 0"), lits(0), marks(held))
	wantAlike(t, from("1; 0 -> 0"), nil, marks(none))
	wantAlike(t, from("1; 0 ~> 0"), nil, marks(lost))
	wantAlike(t, from("1; 0 -> 0; => 0"), nil, marks(loose))
	wantAlike(t, from("3; 0 => 1; 1 => 2; 2 => 0"), nil, marks(open, open, open))
	wantAlike(t, from("3; 0 -> 1; 1 -> 2; 2 -> 0"), nil, marks(none, none, none))
	wantAlike(t, from("3; 0 => 1; 1 => 2; 2 => 0"), lits(1), marks(won, held, won))
	// A way in: used, refuted, waiting.
	wantAlike(t, from("3; 0 => 1; 1 => 0; 2 => 0"), lits(2), marks(won, won, held))
	wantAlike(t, from("3; 0 => 1; 1 => 0; 2 => 0"), nil, marks(open, open, lost))
	wantAlike(t, from("3; 0 => 1; 1 => 0; 2 => 0; 2 => 2"), nil, marks(open, open, open))
	// A refuted literal in the ring refutes all of it.
	wantAlike(t, from("3; 0 2 => 1; 1 => 0"), nil, marks(lost, lost, lost))
	// A ring of strict rules keeps its foe from +v, but not from support.
	x := from("2; 0 -> 0; => 1; 0 # 1")
	wantLogics(t, x, nil, marks(none, open), marks(none, won))
	x.Beats[1] = lits(0)
	wantLogics(t, x, nil, marks(none, open), marks(none, won))
}

// TestRingsThroughFoes: the rule for 0 waits for 1, which it attacks.
func TestRingsThroughFoes(t *testing.T) {
	// Both are supported: so 1 is doubtful, and so is 0. (Defeasibly 1 waits for ever.)
	x := from("2; 1 => 0; => 1; 0 # 1")
	wantDefeasible(t, x, nil, marks(lost, open))
	wantLogics(t, x, nil, marks(lost, lost), marks(won, won))
	wantAlike(t, from("2; 1 => 0; => 1; 0 # 1; 1 > 0"), nil, marks(lost, won))
	// Support waits till it is known that 1 has -v, and that till there is support.
	wantAlike(t, from("2; 1 => 0; => 1; 0 # 1; 0 > 1"), nil, marks(open, open))
	wantAlike(t, from("2; 1 => 0; 0 => 1; 0 # 1"), nil, marks(open, open))
}

// TestFactsAgainstRules: facts against facts, against rules, against nothing.
func TestFactsAgainstRules(t *testing.T) {
	// Two foes that are both facts hold both.
	wantAlike(t, from("2; 0 # 1"), lits(0, 1), marks(held, held))
	wantAlike(t, from("2; => 0; => 1; 0 # 1; 0 > 1"), lits(0, 1), marks(held, held))
	// One that is a fact refutes the other, but leaves it its support, if no rule takes that.
	x := from("2; => 0; => 1; 0 # 1; 0 > 1")
	wantLogics(t, x, lits(1), marks(lost, held), marks(won, held))
	wantAlike(t, x, lits(0), marks(held, lost))
	wantLogics(t, from("2; => 0; 0 # 1"), lits(1), marks(lost, held), marks(won, held))
	wantLogics(t, from("2; => 0; => 1; 0 # 1"), lits(1), marks(lost, held), marks(won, held))
	wantAlike(t, from("2; => 0; ~> 1; 0 # 1; 1 > 0"), lits(1), marks(lost, held))
	// A strict rule is no weaker than a fact.
	wantAlike(t, from("2; -> 0; 0 # 1"), lits(1), marks(held, held))
	wantLogics(t, from("2; -> 0; => 1; 0 # 1; 1 > 0"), nil, marks(held, lost), marks(held, won))
	x = from("3; 2 -> 0; => 1; 0 # 1; 1 > 0")
	wantAlike(t, x, nil, marks(lost, won, lost))
	wantLogics(t, x, lits(2), marks(held, lost, held), marks(held, won, held))
	// Without -D there is no -v, whatever stands against it; and no -s.
	wantLogics(t, from("2; => 0; 0 -> 0; 0 # 1"), lits(1), marks(none, held), marks(loose, held))
	wantLogics(t, from("2; => 0; 0 -> 0; ~> 1; 0 # 1; 2 > 0"), lits(1), marks(none, held), marks(none, held))
	wantLogics(t, from("2; => 0; 0 -> 0; => 1; 0 # 1; 2 > 0; 2 > 1"), nil, marks(none, open), marks(none, won))
}

// TestFoesRules: none, such as cannot be used any more, such as are used.
func TestFoesRules(t *testing.T) {
	wantAlike(t, from("3; => 0; 0 # 1 # 2"), nil, marks(won, lost, lost))
	x := from("3; => 0; 2 => 1; 0 # 1")
	wantAlike(t, x, nil, marks(won, lost, lost))
	wantLogics(t, x, lits(2), marks(lost, lost, held), marks(won, won, held))
	// Foes of foes do not matter.
	wantAlike(t, from("3; => 0; => 2; 0 # 1; 1 # 2"), nil, marks(won, lost, won))
	// A strict rule whose body has no +D is one among others.
	wantLogics(t, from("3; 2 -> 0; => 1; => 2; 0 # 1"), nil, marks(lost, lost, won), marks(won, won, won))
	wantAlike(t, from("3; 2 -> 0; => 1; => 2; 0 # 1; 0 > 1"), nil, marks(won, lost, won))
	wantAlike(t, from("3; 2 -> 0; => 1; => 2; 0 # 1; 1 > 0"), nil, marks(lost, won, won))
	// One that waits: neither.
	x = from("3; => 0; 2 => 1; 2 => 2; 0 # 1")
	wantLogics(t, x, nil, marks(open, lost, open), marks(won, open, open))
	x.Beats[0] = lits(1)
	wantAlike(t, x, nil, marks(won, lost, open))
}

// TestDefeaters: by one nothing has support, but it attacks, and takes support.
func TestDefeaters(t *testing.T) {
	wantLogics(t, from("2; => 0; ~> 1; 0 # 1"), nil, marks(lost, lost), marks(won, lost))
	wantAlike(t, from("2; => 0; ~> 1; 0 # 1; 0 > 1"), nil, marks(won, lost))
	wantAlike(t, from("2; => 0; ~> 1; 0 # 1; 1 > 0"), nil, marks(lost, lost))
	x := from("3; => 0; 2 ~> 1; 0 # 1; 1 > 0")
	wantAlike(t, x, nil, marks(won, lost, lost))
	wantAlike(t, x, lits(2), marks(lost, lost, held))
	x.Beats[1] = nil
	wantAlike(t, x, nil, marks(won, lost, lost))
	wantLogics(t, x, lits(2), marks(lost, lost, held), marks(won, lost, held))
	// A defeater of the literal's own does not defend it, but it takes the foe's support.
	wantLogics(t, from("2; => 0; => 1; ~> 0; 0 # 1; 2 > 1"), nil, marks(lost, lost), marks(won, lost))
	// It is no support for its head.
	wantAlike(t, from("2; ~> 0; => 1; 0 # 1; 1 > 0"), nil, marks(lost, won))
	wantAlike(t, from("2; ~> 0; 0 => 1"), nil, marks(lost, lost))
}

// TestOnlyRuleIsBeaten: by a rule that is used, refuted, neither, doubtful.
func TestOnlyRuleIsBeaten(t *testing.T) {
	x := from("3; => 0; 2 => 1; 0 # 1; 1 > 0")
	wantAlike(t, x, lits(2), marks(lost, won, held))
	wantAlike(t, x, nil, marks(won, lost, lost))
	wantAlike(t, from("3; => 0; 2 => 1; 2 => 2; 0 # 1; 1 > 0"), nil, marks(open, open, open))
	// 2 has support, but -v: enough to make 0 doubtful, too little to take its support.
	x = from("4; => 0; 2 => 1; => 2; => 3; 0 # 1; 2 # 3; 1 > 0")
	wantDefeasible(t, x, nil, marks(won, lost, lost, lost))
	wantLogics(t, x, nil, marks(lost, lost, lost, lost), marks(won, won, won, won))
	// With two rules the other one is left.
	x = from("3; => 0; 2 => 0; => 1; 0 # 1; 2 > 0")
	wantAlike(t, x, nil, marks(lost, won, lost))
	wantLogics(t, x, lits(2), marks(lost, lost, held), marks(won, won, held))
	x.Beats[2] = lits(0, 1)
	wantAlike(t, x, lits(2), marks(lost, won, held))
	// Each is beaten by another one.
	x = from("4; 2 => 0; 3 => 0; => 1; => 1; 0 # 1; 2 > 0; 3 > 1")
	wantLogics(t, x, lits(2, 3), marks(lost, won, held, held), marks(lost, won, held, held))
	x.Beats[3] = nil
	wantLogics(t, x, lits(2, 3), marks(lost, lost, held, held), marks(won, won, held, held))
	wantAlike(t, x, lits(2), marks(lost, won, held, lost))
}

// TestTeams: a foe's rule is beaten by one rule of the team, by another one for each, by none, by one that is refuted or doubtful.
func TestTeams(t *testing.T) {
	x := from("6; 2 => 0; 3 => 0; 4 => 1; 5 => 1; 0 # 1; 0 > 2; 1 > 3")
	wantAlike(t, x, lits(2, 3, 4, 5), marks(won, lost, held, held, held, held))
	wantLogics(t, x, lits(2, 4, 5), marks(lost, lost, held, lost, held, held), marks(won, won, held, lost, held, held))
	wantAlike(t, x, lits(2, 4), marks(won, lost, held, lost, held, lost))
	wantLogics(t, x, lits(3, 4), marks(lost, lost, lost, held, held, lost), marks(won, won, lost, held, held, lost))
	// Three foes: what beats the one does not beat the other; one that is beaten itself takes support all the same.
	wantLogics(t, from("3; => 0; => 1; => 2; 0 # 1 # 2; 0 > 1; 1 > 2"), nil, marks(lost, lost, lost), marks(won, lost, lost))
	wantAlike(t, from("3; => 0; => 1; => 2; 0 # 1 # 2; 0 > 1; 0 > 2; 1 > 2"), nil, marks(won, lost, lost))
	// A rule of another team defends nothing.
	wantLogics(t, from("3; => 0; => 1; => 2; 0 # 1 # 2; 2 > 1"), nil, marks(lost, lost, lost), marks(won, lost, won))
	// The one that beats is refuted; or doubtful; or waits.
	x = from("5; => 0; 2 => 0; => 1; 0 # 1; 1 > 2; 2 # 3")
	wantLogics(t, x, nil, marks(lost, lost, lost, lost, lost), marks(won, won, lost, lost, lost))
	wantAlike(t, x, lits(2), marks(won, lost, held, lost, lost))
	x = from("5; => 0; 2 => 0; => 1; => 2; => 3; 0 # 1; 1 > 2; 2 # 3")
	wantLogics(t, x, nil, marks(lost, lost, lost, lost, lost), marks(won, won, won, won, lost))
	x = from("3; => 0; 2 => 0; => 1; 2 => 2; 0 # 1; 1 > 2")
	wantLogics(t, x, nil, marks(open, lost, open), marks(won, open, open))
}

// TestDoubt: how it goes on, and what ends it.
func TestDoubt(t *testing.T) {
	const text = "4; => 0; => 1; 1 => 2; => 3; 0 # 1; 2 # 3"
	wantLogics(t, from(text+"; 3 > 2"), nil, marks(lost, lost, lost, won), marks(won, won, lost, won))
	wantLogics(t, from(text+"; 2 > 3"), nil, marks(lost, lost, lost, lost), marks(won, won, won, won))
	wantAlike(t, from(text+"; 0 > 1"), nil, marks(won, lost, lost, won))
	wantLogics(t, from(text+"; 1 > 0"), nil, marks(lost, won, lost, lost), marks(lost, won, won, won))
	wantAlike(t, from(text+"; 1 > 0; 2 > 3"), nil, marks(lost, won, won, lost))
	// A fact ends the doubt, but not the support.
	wantLogics(t, from(text), lits(0), marks(held, lost, lost, lost), marks(held, won, won, won))
	wantLogics(t, from(text), lits(1), marks(lost, held, lost, lost), marks(won, held, won, won))
	wantLogics(t, from(text), lits(3), marks(lost, lost, lost, held), marks(won, won, won, held))
	wantLogics(t, from(text), lits(2), marks(lost, lost, held, lost), marks(won, won, held, won))
}
