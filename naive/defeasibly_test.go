package naive_test

import (
	"testing"

	"lexprior/api"
)

// TestPlusPartialByPlusDelta: of the list; that a literal is a fact, or its +D's condition holds, is not enough.
func TestPlusPartialByPlusDelta(t *testing.T) {
	x := from("3; => 1; -> 2; 0 # 1 # 2")
	wantWays(t, x, nil, api.PlusPartial, 0,
		way{marks("+D", none, none), true},
		way{marks("+D", held, held), true},
		way{marks("+D -D -d ?", "+d", "+d"), true},
		way{marks("+d -D ?", "-D", "-D"), false},
		way{marks(none, none, none), false},
	)
	wantWays(t, x, lits(0), api.PlusPartial, 0,
		way{marks(none, none, none), false},
		way{marks(none, "-D", "-D"), false},
		way{marks("+D", none, none), true},
	)
	// With and without +D of a fact, where a rule is there for it.
	x = from("2; => 0; => 1; 0 # 1; 0 > 1")
	wantWays(t, x, lits(0), api.PlusPartial, 0,
		way{marks(none, none), false},
		way{marks(none, "-D"), true},
		way{marks("+D", none), true},
	)
	wantWays(t, x, lits(1), api.PlusPartial, 0, way{marks(none, "+D"), false}, way{marks(none, "+D -D"), true})
}

// TestPlusPartialByRules: (1): a rule, strict or defeasible, has its whole body +d; of a defeater nothing follows.
func TestPlusPartialByRules(t *testing.T) {
	for _, text := range []string{"4; 0 1 2 => 3", "4; 0 1 2 -> 3", "4; ~> 3; 0 1 2 => 3; 3 => 3"} {
		wantWays(t, from(text), nil, api.PlusPartial, 3,
			way{marks("+d", "+d", "+d", none), true},
			way{marks("+d -d", held, won, lost), true},
			way{marks(none, "+d", "+d", none), false},
			way{marks("+d", "+D -D -d ?", "+d", none), false},
			way{marks("+d", "+d", none, none), false},
			way{marks("+D", "+D", "+D", none), false},
		)
	}
	for _, text := range []string{"2; => 1", "2; -> 1", "2; 0 => 1; => 1", "2; 0 => 1; -> 1; ~> 1"} {
		wantHolds(t, from(text), nil, marks(none, none), api.PlusPartial, 1, true)
	}
	for _, text := range []string{"2", "2; ~> 1", "2; 0 ~> 1", "2; => 0; 1 => 0"} {
		wantHolds(t, from(text), nil, marks("+d", "+d"), api.PlusPartial, 1, false)
	}
	// The head in its own body.
	wantWays(t, from("1; 0 => 0"), nil, api.PlusPartial, 0, way{marks(none), false}, way{marks("+d"), true}, way{marks("-D"), false})
}

// TestPlusPartialNeedsFoesRefuted: (2): each foe has -D, with rules or without; -d is not asked.
func TestPlusPartialNeedsFoesRefuted(t *testing.T) {
	for _, text := range []string{"4; => 0; 0 # 1; 0 # 2; 0 # 3", "4; -> 0; 0 # 1 # 2 # 3; 2 => 2; 0 > 1"} {
		wantWays(t, from(text), nil, api.PlusPartial, 0,
			way{marks(none, "-D", "-D", "-D"), true},
			way{marks(none, "-D +D", "-D +d", "-D -d"), true},
			way{marks("-D", none, "-D", "-D"), false},
			way{marks("-D", "-D", "+D +d -d ?", "-D"), false},
			way{marks("-D", "-D", "-D", "-d"), false},
			way{marks(none, none, none, none), false},
		)
	}
	// Foes of foes are not asked.
	wantHolds(t, from("3; => 0; => 2; 0 # 1; 1 # 2"), nil, marks(none, "-D", "+D"), api.PlusPartial, 0, true)
	wantHolds(t, from("3; => 0; => 2; 0 # 1; 1 # 2"), nil, marks("-D", none, "+D"), api.PlusPartial, 0, false)
}

// TestPlusPartialAgainstRules: (3): a foe's rule of any kind stands in the way, till a literal of its body has -d.
func TestPlusPartialAgainstRules(t *testing.T) {
	for _, arrow := range []string{"->", "=>", "~>"} {
		x := from("4; => 0; 2 3 " + arrow + " 1; 0 # 1")
		wantWays(t, x, nil, api.PlusPartial, 0,
			way{marks(none, "-D", "-d", none), true},
			way{marks(none, "-D", none, "-d"), true},
			way{marks(none, "-D", "+D +d", "+D +d -d"), true},
			way{marks(none, "-D", none, none), false},
			way{marks(none, "-D", "-D +d", "-D +D ?"), false},
			way{marks(none, "-D -d", "-D", "-D"), false},
		)
		// One with an empty body is always there.
		x = from("3; => 0; " + arrow + " 1; 0 # 1")
		wantHolds(t, x, nil, marks("-D -d", "-D -d", "-D -d"), api.PlusPartial, 0, false)
		// With its own head in its body.
		x = from("2; => 0; 1 " + arrow + " 1; 0 # 1")
		wantWays(t, x, nil, api.PlusPartial, 0, way{marks(none, "-D"), false}, way{marks(none, "-D -d"), true})
		// And with the other's.
		x = from("2; => 0; 0 " + arrow + " 1; 0 # 1")
		wantWays(t, x, nil, api.PlusPartial, 0, way{marks(none, "-D"), false}, way{marks("-d", "-D"), true})
	}
	// Each of several, of several foes.
	x := from("6; => 0; 3 => 1; 4 ~> 2; 5 => 1; 0 # 1; 0 # 2")
	wantWays(t, x, nil, api.PlusPartial, 0,
		way{marks(none, "-D", "-D", "-d", "-d", "-d"), true},
		way{marks(none, "-D", "-D", none, "-d", "-d"), false},
		way{marks(none, "-D", "-D", "-d", none, "-d"), false},
		way{marks(none, "-D", "-D", "-d", "-d", none), false},
	)
	// Rules for the literal itself, and for what is no foe of it, do not matter.
	wantHolds(t, from("4; => 0; ~> 0; 3 => 0; => 2; => 3; 0 # 1; 2 # 3"), nil, marks(none, "-D", none, none), api.PlusPartial, 0, true)
}

// TestPlusPartialByTheTeam: (3): a rule for the literal, strict or defeasible, beats the foe's, and has its whole body +d. It need not be the one of (1), nor need the foe's body be known.
func TestPlusPartialByTheTeam(t *testing.T) {
	for _, arrow := range []string{"->", "=>", "~>"} {
		team := arrow != "~>"
		x := from("5; => 0; 2 " + arrow + " 0; 3 => 1; 4 => 4; 0 # 1; 1 > 2")
		wantWays(t, x, nil, api.PlusPartial, 0,
			way{marks(none, "-D", "+d", none, none), team},
			way{marks(none, "-D", "+d", "+d", none), team},
			way{marks(none, "-D", "+d -d", "+d", none), team},
			way{marks(none, "-D", "+d", "-d", none), true},
			way{marks(none, "-D", none, "-d", none), true},
			way{marks(none, "-D", none, none, none), false},
			way{marks(none, "-D", "+D -D -d", "+d", "+d"), false},
			way{marks(none, none, "+d", none, none), false},
		)
		// With an empty body it is always used.
		x = from("3; " + arrow + " 0; => 1; 0 # 1; 0 > 1")
		wantHolds(t, x, nil, marks(none, "-D", none), api.PlusPartial, 0, team)
		// A foe's rule of each kind can be beaten.
		x = from("3; => 0; " + arrow + " 1; 0 # 1; 0 > 1")
		wantHolds(t, x, nil, marks(none, "-D", none), api.PlusPartial, 0, true)
	}
	// By none of the team.
	wantHolds(t, from("2; => 0; => 1; 0 # 1"), nil, marks(none, "-D"), api.PlusPartial, 0, false)
	wantHolds(t, from("2; => 0; => 1; 0 # 1; 1 > 0"), nil, marks(none, "-D"), api.PlusPartial, 0, false)
	wantHolds(t, from("2; => 0; => 1; 0 # 1; 1 > 0"), nil, marks("-D", none), api.PlusPartial, 1, true)
	// By a rule of another team.
	x := from("3; => 0; => 1; => 2; 0 # 1 # 2; 0 > 2; 2 > 1")
	wantHolds(t, x, nil, marks("-D", "-D", "-D"), api.PlusPartial, 0, false)
	x.Beats[0] = lits(1, 2)
	wantHolds(t, x, nil, marks("-D", "-D", "-D"), api.PlusPartial, 0, true)
	// By way of another that is beaten, but not by it: superiority is not carried on.
	x = from("3; => 0; => 1; => 2; 0 # 1 # 2; 0 > 1; 1 > 2")
	wantHolds(t, x, nil, marks("-D", "-D", "-D"), api.PlusPartial, 0, false)
}

// TestTeamAgainstTeam: each of the foes' rules is beaten by another one of the team.
func TestTeamAgainstTeam(t *testing.T) {
	x := from("6; 2 => 0; 3 => 0; 4 => 1; 5 => 1; 0 # 1; 0 > 2; 1 > 3")
	wantWays(t, x, nil, api.PlusPartial, 0,
		way{marks(none, "-D", "+d", "+d", "+d", "+d"), true},
		way{marks(none, "-D", "+d", "+d", none, none), true},
		way{marks(none, "-D", "+d", none, "+d", "+d"), false},
		way{marks(none, "-D", none, "+d", "+d", "+d"), false},
		way{marks(none, "-D", "+d", none, none, "-d"), true},
		way{marks(none, "-D", none, "+d", "-d", none), true},
		way{marks(none, "-D", none, none, "-d", "-d"), false},
	)
	wantSolved(t, x, lits(2, 3, 4, 5), 3, marks(won, lost, held, held, held, held))
	wantSolved(t, x, lits(2, 4, 5), 3, marks(lost, lost, held, lost, held, held))
	wantSolved(t, x, lits(2, 4), 3, marks(won, lost, held, lost, held, lost))
	x.Beats[1] = nil
	wantSolved(t, x, lits(2, 3, 4, 5), 3, marks(lost, lost, held, held, held, held))
}

// TestMinusPartialNeedsMinusDelta: of the list, whatever else there is; that its condition holds is not enough.
func TestMinusPartialNeedsMinusDelta(t *testing.T) {
	for _, text := range []string{"3", "3; 2 => 0", "3; => 1; 0 # 1", "3; ~> 0; 0 # 1; => 1; => 0"} {
		wantWays(t, from(text), nil, api.MinusPartial, 0,
			way{marks(none, none, "-d"), false},
			way{marks("+D +d -d ?", "+D", "-d"), false},
			way{marks("-d", held, lost), false},
			way{marks("-D", held, lost), true},
			way{marks("-D +D +d", "+D", "-d"), true},
		)
	}
	wantHolds(t, plain(1), lits(0), marks("-D"), api.MinusPartial, 0, true)
}

// TestMinusPartialByRules: (1): each rule of the team has a literal with -d; defeaters are not asked.
func TestMinusPartialByRules(t *testing.T) {
	for _, text := range []string{"4; 0 1 2 => 3", "4; 0 1 2 -> 3", "4; ~> 3; 0 1 2 => 3; 3 ~> 3"} {
		wantWays(t, from(text), nil, api.MinusPartial, 3,
			way{marks("-d", none, none, "-D"), true},
			way{marks(none, "-d", none, "-D"), true},
			way{marks(held, held, "+D +d -d", "-D"), true},
			way{marks(none, none, none, "-D"), false},
			way{marks("-D", "-D", "-D", "-D -d"), false},
			way{marks("+D +d -D ?", none, none, "-D"), false},
		)
	}
	for _, text := range []string{"3; 0 => 2; 1 => 2", "3; 1 -> 2; 0 => 2", "3; ~> 2; 0 => 2; 1 -> 2; 0 ~> 2"} {
		wantWays(t, from(text), nil, api.MinusPartial, 2,
			way{marks("-d", "-d", "-D"), true},
			way{marks("-d", none, "-D"), false},
			way{marks(none, "-d", "-D"), false},
		)
	}
	for text, want := range map[string]bool{"2": true, "2; ~> 1": true, "2; 0 ~> 1": true, "2; => 1": false, "2; -> 1": false, "2; 0 => 1; => 1": false, "2; => 0; 1 => 0": true} {
		wantHolds(t, from(text), nil, marks("-d", "-D"), api.MinusPartial, 1, want)
	}
	wantWays(t, from("1; 0 => 0"), nil, api.MinusPartial, 0, way{marks("-D"), false}, way{marks("-D -d"), true}, way{marks("-d"), false})
}

// TestMinusPartialByFoes: (2): one of the foes has +D; +d is not enough.
func TestMinusPartialByFoes(t *testing.T) {
	wantWays(t, from("4; => 0; 0 # 1; 0 # 2; 2 # 3"), nil, api.MinusPartial, 0,
		way{marks("-D", "+D", none, none), true},
		way{marks("-D", none, "+D", none), true},
		way{marks("-D", "-D", "+D -D", none), true},
		way{marks("-D", none, none, none), false},
		way{marks("-D", "-D +d -d ?", "+d", "+D"), false},
		way{marks("-D +D", none, none, none), false},
		way{marks("+D", "+D", "+D", "+D"), false},
	)
	// A foe that is a fact has it not before the list says so.
	wantHolds(t, from("2; => 0; 0 # 1"), lits(1), marks("-D", none), api.MinusPartial, 0, false)
}

// TestMinusPartialByRulesAgainst: (3): a foe's rule of any kind has its whole body +d, and no rule of the team beats it.
func TestMinusPartialByRulesAgainst(t *testing.T) {
	for _, arrow := range []string{"->", "=>", "~>"} {
		x := from("4; => 0; 2 3 " + arrow + " 1; 0 # 1; 1 > 0")
		wantWays(t, x, nil, api.MinusPartial, 0,
			way{marks("-D", none, "+d", "+d"), true},
			way{marks("-D", none, "+d -d", "+d"), true},
			way{marks("-D", "+d", "+d", none), false},
			way{marks("-D", "+d", none, "+d"), false},
			way{marks("-D", "-D -d", "+D", "+D"), false},
			way{marks(none, none, "+d", "+d"), false},
		)
		wantHolds(t, from("2; => 0; "+arrow+" 1; 0 # 1"), nil, marks("-D", none), api.MinusPartial, 0, true)
		wantHolds(t, from("2; => 0; "+arrow+" 1; 0 # 1; 0 > 1"), nil, marks("-D", none), api.MinusPartial, 0, false)
		wantHolds(t, from("2; => 0; "+arrow+" 1"), nil, marks("-D", none), api.MinusPartial, 0, false)
	}
	// Foes of foes, and rules for the literal itself.
	wantHolds(t, from("3; => 0; ~> 0; => 2; 0 # 1; 1 # 2"), nil, marks("-D", "-D", "-D"), api.MinusPartial, 0, false)
}

// TestMinusPartialAgainstTheTeam: (3): a rule of the team that beats the foe's keeps it off, unless a literal of its body has -d.
func TestMinusPartialAgainstTheTeam(t *testing.T) {
	for _, arrow := range []string{"->", "=>", "~>"} {
		off := arrow != "~>" // a defeater is not of the team
		x := from("4; => 0; 2 3 " + arrow + " 0; => 1; 0 # 1; 1 > 2")
		wantWays(t, x, nil, api.MinusPartial, 0,
			way{marks("-D", none, none, none), !off},
			way{marks("-D", none, "+d", "+d"), !off},
			way{marks("-D", none, "-D +D ?", "-D"), !off},
			way{marks("-D", none, "-d", none), true},
			way{marks("-D", none, "+d", "+d -d"), true},
			way{marks(none, none, "-d", "-d"), false},
		)
	}
	// Two rules of the team beat it: both must be refuted.
	x := from("4; => 0; 2 => 0; 3 -> 0; => 1; 0 # 1; 1 > 3; 2 > 3")
	wantWays(t, x, nil, api.MinusPartial, 0,
		way{marks("-D", none, "-d", "-d"), true},
		way{marks("-D", none, "-d", none), false},
		way{marks("-D", none, none, "-d"), false},
	)
	// One of the foes' rules is beaten, another one is not.
	x = from("4; => 0; => 1; 2 => 1; 3 ~> 1; 0 # 1; 0 > 1; 0 > 3")
	wantWays(t, x, nil, api.MinusPartial, 0,
		way{marks("-D", none, "+d", none), true},
		way{marks("-D", none, none, "+d"), false},
		way{marks("-D", none, "-d", "+d"), false},
	)
	// By a rule of another team it is not beaten for this one.
	x = from("3; => 0; => 1; => 2; 0 # 1 # 2; 2 > 1; 0 > 2")
	wantHolds(t, x, nil, marks("-D", "-D", "-D"), api.MinusPartial, 0, true)
	x.Beats[0] = lits(1, 2)
	wantHolds(t, x, nil, marks("-D", "-D", "-D"), api.MinusPartial, 0, false)
}
