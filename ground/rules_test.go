package ground_test

import (
	"slices"
	"testing"

	"lexprior/api"
)

// TestRules: schema by schema, instance by instance.
func TestRules(t *testing.T) {
	wantRules(t, []string{"old(X), X != ben => help(X) = 10", "=> rains", "lives(cem, F) -> -rains", "rains ~> -help(ann) = 20.50"},
		"r0[ann]: old(ann) => help(ann) = 10",
		"r0[cem]: old(cem) => help(cem) = 10",
		"r1: => rains",
		"r2[home]: lives(cem,home) -> -rains",
		"r2[hut]: lives(cem,hut) -> -rains",
		"r3: rains ~> -help(ann) = 20.50",
	)
	wantRules(t, []string{"lives(X, F), lives(Y, F), X != Y, X != ann, Y != ann => knows(X, Y)"},
		"r0[ben,home,cem]: lives(ben,home), lives(cem,home) => knows(ben,cem)",
		"r0[ben,hut,cem]: lives(ben,hut), lives(cem,hut) => knows(ben,cem)",
		"r0[cem,home,ben]: lives(ben,home), lives(cem,home) => knows(cem,ben)",
		"r0[cem,hut,ben]: lives(ben,hut), lives(cem,hut) => knows(cem,ben)",
	)
	wantRules(t, []string{"=> lives(X, home)"}, "r0[ann]: => lives(ann,home)", "r0[ben]: => lives(ben,home)", "r0[cem]: => lives(cem,home)")
}

func TestSchemaNumbers(t *testing.T) {
	g := grounded(t, withRules(t, "old(X), X != ben => rains", "ann != ann => rains", "=> rains", "haunts(G, F) => rains", "lives(cem, F) -> -rains"))
	if want := []int{0, 0, 2, 4, 4}; !slices.Equal(g.Schema, want) {
		t.Errorf("P11.2: the schemas are %d, want %d", g.Schema, want)
	}
	if len(g.Theory.Beats) != 5 {
		t.Errorf("P11.2: %d lists in Beats", len(g.Theory.Beats))
	}
	for n, list := range g.Theory.Beats {
		if len(list) != 0 {
			t.Errorf("P11.2: rule %d beats %d", n, list)
		}
	}
}

// TestBodies: rising, each once; what has to be unlike is no part.
func TestBodies(t *testing.T) {
	wantRules(t, []string{"rains, old(cem), {income(ann) < 5}, old(ann), -old(ann), ann != ben, {rate < 5} => bonus = 3"},
		"r0: old(ann), -old(ann), old(cem), rains, {rate < 5}, {income(ann) < 5} => bonus = 3")
	wantRules(t, []string{"old(X), rains, old(ann), rains, X != ben => rains"},
		"r0[ann]: old(ann), rains => rains",
		"r0[cem]: old(ann), old(cem), rains => rains",
	)
	wantRules(t, []string{"{income(X) < 5}, {income(ann) < 5}, {income(X) < 5}, X != ben => rains"},
		"r0[ann]: {income(ann) < 5} => rains",
		"r0[cem]: {income(ann) < 5}, {income(cem) < 5} => rains",
	)
}

// TestWhatIsNotNeeded: of a premise, by its kind, is not looked at.
func TestWhatIsNotNeeded(t *testing.T) {
	s := withRules(t, "old(X), {income(X) < 5}, X != ben => rains")
	want := ruleLines(t, s, grounded(t, s))
	body := s.Rules[0].Body
	for n, p := range body {
		other := body[(n+1)%3]
		whole := api.PremiseText{Kind: p.Kind, Lit: api.LitText{Pred: "none", Args: []string{"Y"}}, Guard: other.Guard, A: "ann", B: "ann"}
		switch p.Kind {
		case api.PremiseLit:
			whole.Lit = p.Lit
		case api.PremiseGuard:
			whole.Guard = p.Guard
		case api.PremiseUnlike:
			whole.A, whole.B, whole.Lit, whole.Guard = p.A, p.B, other.Lit, body[1].Guard
			whole.Guard.Op = api.OpMore
		}
		s.Rules[0].Body[n] = whole
	}
	wantAssignments(t, s, 0, each(ann, cem), api.OK)
	wantLines(t, "what is not needed", ruleLines(t, s, grounded(t, s)), want...)
	wantLines(t, "literals", litTexts(t, s, grounded(t, s)), "old(ann)", "-old(ann)", "old(cem)", "-old(cem)", "rains", "-rains", "{income(ann) < 5}", "{income(cem) < 5}")
}

// TestOneGuard: two texts, or two instances, that are one guard; and texts that are not.
func TestOneGuard(t *testing.T) {
	wantLits(t, []string{"{income(X) + 5 < 10} => rains", "{income(ann) < 5}, {0 > income(ann) - 5} => rains", "{2*income(ann) - income(ann) < 5} => rains"},
		"rains", "-rains", "{-1*income(ann) > -5}", "{income(ann) < 5}", "{income(ben) < 5}", "{income(cem) < 5}")
	wantRules(t, []string{"{income(X) + income(Y) < 5}, X != ann, Y != ann => knows(X, Y)"},
		"r0[ben,ben]: {2*income(ben) < 5} => knows(ben,ben)",
		"r0[ben,cem]: {income(ben) + income(cem) < 5} => knows(ben,cem)",
		"r0[cem,ben]: {income(ben) + income(cem) < 5} => knows(cem,ben)",
		"r0[cem,cem]: {2*income(cem) < 5} => knows(cem,cem)",
	)
	wantRules(t, []string{"{income(X) < income(Y)}, X != cem, Y != cem => rains"},
		"r0[ann,ann]: {0 < 0} => rains",
		"r0[ann,ben]: {income(ann) - income(ben) < 0} => rains",
		"r0[ben,ann]: {-1*income(ann) + income(ben) < 0} => rains",
		"r0[ben,ben]: {0 < 0} => rains",
	)
	wantLits(t, []string{"{income(X) < income(Y)}, X != cem, Y != cem => rains"},
		"rains", "-rains", "{0 < 0}", "{-1*income(ann) + income(ben) < 0}", "{income(ann) - income(ben) < 0}")
	wantLits(t, []string{"{5 < 6}, {7 < 8}, {rate < 5}, {rate <= 5}, {rate < 6} => rains"}, "rains", "-rains", "{0 < 1}", "{rate < 6}", "{rate < 5}", "{rate <= 5}")
}

// TestGuards: by guards.Compare, the first has number 1; each is what its literal says.
func TestGuards(t *testing.T) {
	g := grounded(t, withRules(t, "{rent(ann, F) - 2*income(ann) >= rate + 0.50} => rains", "{3 < 1} => rains"))
	rate, income, rent := 8, 9, 10
	term := func(coef int64, pred int, args ...int) api.Term {
		return api.Term{Coef: coef, Atom: api.Atom{Pred: pred, Args: args}}
	}
	want := []api.Guard{
		{Const: 200, Op: api.OpLess},
		{Terms: []api.Term{term(-1, rate), term(-2, income, ann), term(1, rent, ann, home)}, Const: -50, Op: api.OpLeast},
		{Terms: []api.Term{term(-1, rate), term(-2, income, ann), term(1, rent, ann, hut)}, Const: -50, Op: api.OpLeast},
	}
	if !same(g.Guards, want) {
		t.Errorf("P11.2: the guards are %+v, want %+v", g.Guards, want)
	}
	lits := []api.Lit{{Atom: api.Atom{Pred: 7}}, {Neg: true, Atom: api.Atom{Pred: 7}}, {Guard: 1}, {Guard: 2}, {Guard: 3}}
	if !same(g.Lits, lits) || g.Theory.Lits != 5 {
		t.Errorf("P11.2: the literals are %+v, %d, want %+v", g.Lits, g.Theory.Lits, lits)
	}
	if foes := [][]int{{1}, {0}, nil, nil, nil}; !same(g.Theory.Foes, foes) {
		t.Errorf("P11.2: the foes are %d, want %d", g.Theory.Foes, foes)
	}
	if rules := []api.Rule{{Kind: 2, Head: 0, Body: []int{3}}, {Kind: 2, Head: 0, Body: []int{4}}, {Kind: 2, Head: 0, Body: []int{2}}}; !same(g.Theory.Rules, rules) {
		t.Errorf("P11.2: the rules are %+v, want %+v", g.Theory.Rules, rules)
	}
}

// TestLiterals: of heads and bodies of instances, with all that are in conflict with them, and no others.
func TestLiterals(t *testing.T) {
	wantLits(t, []string{"=> rains"}, "rains", "-rains")
	wantLits(t, []string{"=> -rains"}, "rains", "-rains")
	wantLits(t, []string{"rains -> rains"}, "rains", "-rains")
	wantLits(t, []string{"old(X), X != ben => rains"}, "old(ann)", "-old(ann)", "old(cem)", "-old(cem)", "rains", "-rains")
	wantLits(t, []string{"=> bonus = 3"}, "bonus = 0", "bonus = 3", "-bonus = 3")
	wantLits(t, []string{"=> -bonus = 3"}, "bonus = 3", "-bonus = 3")
	wantLits(t, []string{"bonus = 0 => -bonus = 3"}, "bonus = 0", "-bonus = 0", "bonus = 3", "-bonus = 3")
	wantLits(t, []string{"-bonus = 0 ~> bonus = 3"}, "bonus = 0", "-bonus = 0", "bonus = 3", "-bonus = 3")
	wantLits(t, []string{"=> help(ben) = 20.50"}, "help(ben) = 10", "help(ben) = 20.50", "-help(ben) = 20.50")
	wantLits(t, []string{"=> single(ben)"}, "single(ben)", "-single(ben)", "married(ben)", "widowed(ben)")
	wantLits(t, []string{"=> -single(ben)"}, "single(ben)", "-single(ben)")
	wantLits(t, []string{"-widowed(ben) => single(ann)"}, "single(ann)", "-single(ann)", "married(ann)", "widowed(ann)", "widowed(ben)", "-widowed(ben)")
	wantLits(t, []string{"old(X), X != X => rains", "haunts(G, home) => bonus = 3"})
}

// TestFoes: of amounts and classes, too; a guard's literal has none.
func TestFoes(t *testing.T) {
	s := withRules(t, "{rate < 5}, {rate >= 5} => single(ann)", "bonus = 0 => -bonus = 3")
	g := grounded(t, s)
	wantLines(t, "literals", litTexts(t, s, g),
		"single(ann)", "-single(ann)", "married(ann)", "widowed(ann)", "bonus = 0", "-bonus = 0", "bonus = 3", "-bonus = 3", "{rate < 5}", "{rate >= 5}")
	want := [][]int{{1, 2, 3}, {0}, {0, 3}, {0, 2}, {5, 6}, {4}, {4, 7}, {6}, nil, nil}
	if !same(g.Theory.Foes, want) {
		t.Errorf("P11.2: the foes are %d, want %d", g.Theory.Foes, want)
	}
}
