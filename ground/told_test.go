package ground_test

import (
	"math"
	"testing"

	"lexprior/api"
)

func lit(pred int, args ...int) api.Lit {
	return api.Lit{Atom: api.Atom{Pred: pred, Args: args}}
}

func not(l api.Lit) api.Lit {
	l.Neg = true
	return l
}

func worth(l api.Lit, value api.Money) api.Lit {
	l.Atom.Value = value
	return l
}

// The predicates of house that are told here, by their numbers.
const (
	old    = 0
	lives  = 4
	rains  = 7
	income = 9
	help   = 11
	bonus  = 12
	preds  = 13
)

// loose: a ground that no call made, of these literals.
func loose(lits ...api.Lit) api.Ground {
	return api.Ground{Lits: lits}
}

func TestLitTexts(t *testing.T) {
	s := parsed(t, house)
	for _, c := range []struct {
		lit  api.Lit
		want string
	}{
		{lit(rains), "rains"},
		{not(lit(rains)), "-rains"},
		{lit(old, cem), "old(cem)"},
		{not(lit(old, ann)), "-old(ann)"},
		{lit(lives, ben, hut), "lives(ben,hut)"},
		{not(lit(lives, cem, home)), "-lives(cem,home)"},
		{worth(lit(help, ben), 2050), "help(ben) = 20.50"},
		{not(worth(lit(help, hut), 1000)), "-help(hut) = 10"},
		{worth(lit(bonus), 0), "bonus = 0"},
		{not(worth(lit(bonus), 300)), "-bonus = 3"},
		// What may not be has a text, too, if its predicate and its members are there.
		{worth(lit(bonus), -705), "bonus = -7.05"},
		{worth(lit(help, ann, ann, hut), 7), "help(ann,ann,hut) = 0.07"},
		{lit(rains, ann), "rains(ann)"},
		{lit(old), "old"},
		{worth(lit(rains), 5), "rains"},
		{lit(income, ben), "income(ben)"},
	} {
		wantLit(t, s, loose(lit(old, ann), c.lit), 1, c.want, api.OK)
	}
}

func TestNoSuchLiteral(t *testing.T) {
	s := withRules(t, "{rate < 5} => rains")
	g := grounded(t, s)
	wantLit(t, s, g, 0, "rains", api.OK)
	wantLit(t, s, g, 2, "{rate < 5}", api.OK)
	for _, n := range []int{-1, 3, 4, math.MinInt, math.MaxInt} {
		wantLit(t, s, g, n, "", api.ErrLit)
		wantLit(t, s, api.Ground{}, n, "", api.ErrLit)
	}
	wantLit(t, s, api.Ground{Theory: api.Theory{Lits: 5}}, 0, "", api.ErrLit)
}

// TestLitsOfOtherStatutes: a predicate or a member that the statute has not.
func TestLitsOfOtherStatutes(t *testing.T) {
	s := parsed(t, house)
	for _, l := range []api.Lit{
		lit(-1), lit(preds), lit(math.MinInt, ann), lit(math.MaxInt, ann), not(lit(preds, ann)),
		lit(old, -1), lit(old, 5), lit(old, math.MinInt), lit(old, math.MaxInt), lit(lives, ann, 5), lit(lives, -1, home), not(worth(lit(help, 5), 1000)),
	} {
		wantLit(t, s, loose(l), 0, "", api.ErrLit)
	}
	few := s
	few.Members = s.Members[:cem]
	wantLit(t, few, loose(lit(old, cem)), 0, "", api.ErrLit)
	wantLit(t, few, loose(lit(old, ben)), 0, "old(ben)", api.OK)
	few.Preds = s.Preds[:lives]
	wantLit(t, few, loose(lit(lives, ben, home)), 0, "", api.ErrLit)
	wantLit(t, api.Statute{}, loose(api.Lit{}), 0, "", api.ErrLit)
	// The names of a statute that resolve.Check refuses are told as they are.
	odd := api.Statute{Preds: []api.PredText{{Name: "A b"}, {Sort: api.SortAmount}}, Members: []api.MemberText{{Name: "\xff"}, {}}}
	wantLit(t, odd, loose(lit(0, 0, 1, 0)), 0, "A b(\xff,,\xff)", api.OK)
	wantLit(t, odd, loose(worth(lit(1), 100)), 0, " = 1", api.OK)
}

// TestGuardTexts: as guards.Print tells them. A number that no guard has, and a guard that has no text by this statute, is ErrLit.
func TestGuardTexts(t *testing.T) {
	s := parsed(t, house)
	sum := []api.Term{{Coef: 1, Atom: api.Atom{Pred: income, Args: []int{ann}}}, {Coef: -2, Atom: api.Atom{Pred: 10, Args: []int{ben, hut}}}}
	g := api.Ground{
		Lits:   []api.Lit{{Guard: 1}, {Guard: 2}, {Guard: 3}, {Guard: 4}, {Guard: 5}, {Guard: -1}, {Guard: math.MaxInt}, {Guard: math.MinInt}},
		Guards: []api.Guard{{Terms: sum, Const: 500, Op: api.OpLess}, {Op: api.OpEqual}, {}, {Terms: []api.Term{{Coef: 1, Atom: api.Atom{Pred: preds}}}, Op: api.OpLess}},
	}
	wantLit(t, s, g, 0, "{income(ann) - 2*rent(ben, hut) < -5}", api.OK)
	wantLit(t, s, g, 1, "{0 == 0}", api.OK)
	for n := 2; n < 8; n++ {
		wantLit(t, s, g, n, "", api.ErrLit)
	}
	few := s
	few.Members = s.Members[:hut]
	wantLit(t, few, g, 0, "", api.ErrLit)
	wantLit(t, few, g, 1, "{0 == 0}", api.OK)
	few.Preds = s.Preds[:income]
	wantLit(t, few, g, 0, "", api.ErrLit)
	wantLit(t, s, loose(worth(lit(bonus), math.MaxInt64)), 0, "", api.ErrLit)
}

func TestRuleNames(t *testing.T) {
	s := withRules(t, "=> rains", "old(X), X != ann => rains", "ann != ben, rains -> rains", "lives(X, F), X != ben => knows(Y, X)")
	g := grounded(t, s)
	want := []string{"r0", "r1[ben]", "r1[cem]", "r2"}
	for _, x := range []string{"ann", "cem"} {
		for _, f := range []string{"home", "hut"} {
			for _, y := range []string{"ann", "ben", "cem"} {
				want = append(want, "r3["+x+","+f+","+y+"]")
			}
		}
	}
	for n, name := range want {
		wantRuleName(t, s, g, n, name, api.OK)
	}
	for _, r := range []int{-1, len(want), len(want) + 1, math.MinInt, math.MaxInt} {
		wantRuleName(t, s, g, r, "", api.ErrRule)
		wantRuleName(t, s, api.Ground{}, r, "", api.ErrRule)
	}
}

// ruled: a ground that no call made, of rules of these schemas.
func ruled(schemas ...int) api.Ground {
	return api.Ground{Schema: schemas, Theory: api.Theory{Rules: make([]api.Rule, len(schemas))}}
}

// TestRuleNamesOfOtherGrounds: by the place of a rule among those of its schema, wherever these stand.
func TestRuleNamesOfOtherGrounds(t *testing.T) {
	s := withRules(t, "=> rains", "old(X), X != ann => rains", "old(X), X != X => rains", "ann != ann => rains")
	g := ruled(1, 0, 1, 2, 1, 0, 3, -1, 4, math.MinInt, math.MaxInt)
	for n, want := range []string{"r1[ben]", "r0", "r1[cem]", "", "", "", "", "", "", "", ""} {
		errno := api.OK
		if want == "" {
			errno = api.ErrRule
		}
		wantRuleName(t, s, g, n, want, errno)
	}
	wantRuleName(t, api.Statute{}, ruled(0), 0, "", api.ErrRule)
	few := ruled(0, 0, 1)
	few.Theory.Rules = few.Theory.Rules[:2]
	wantRuleName(t, s, few, 0, "r0", api.OK)
	wantRuleName(t, s, few, 2, "", api.ErrRule)
	few = ruled(0, 1, 1)
	few.Schema = few.Schema[:2]
	wantRuleName(t, s, few, 1, "r1[ben]", api.OK)
	wantRuleName(t, s, few, 2, "", api.ErrRule)
}

// TestRuleNamesOfOtherStatutes: a schema that Assignments refuses has no assignment.
func TestRuleNamesOfOtherStatutes(t *testing.T) {
	for _, c := range spoilts() {
		s := parsed(t, house+ruleTexts("old(Y), X != Y, old(X) => rains", "old(X), X != ann => help(ann) = 10")+"exception r0 to r1.")
		g := grounded(t, s)
		wantRuleName(t, s, g, 0, "r0[ann,ben]", api.OK)
		c.spoil(&s)
		wantRuleName(t, s, g, 0, "", api.ErrRule)
	}
	s := withRules(t, "old(X) => rains", "knows(A, B), knows(C, D), knows(E, F), knows(G, H), knows(I, J) => rains")
	wantRuleName(t, s, ruled(0, 1), 0, "r0[ann]", api.OK)
	wantRuleName(t, s, ruled(0, 1), 1, "", api.ErrRule)
}

// TestNumbers: of each literal its place.
func TestNumbers(t *testing.T) {
	s := withRules(t, "{rate < 5}, {income(X) < 5}, old(X) => help(X) = 10", "single(X) ~> -rains", "=> bonus = 3")
	g := grounded(t, s)
	for n, l := range g.Lits {
		wantNumber(t, s, g, l, n, true)
		wantNumber(t, api.Statute{}, g, l, n, true)
		wantNumber(t, s, api.Ground{}, l, 0, false)
	}
	for _, l := range []api.Lit{
		{}, lit(old), lit(old, home), lit(old, hut), lit(old, 5), lit(old, -1), lit(old, ann, ann), worth(lit(old, ann), 5), lit(lives, ann, home),
		worth(lit(help, ann), 1001), lit(help, ann), not(worth(lit(help, ann), 2050)), not(lit(2, ann)), lit(-1), lit(preds),
		{Guard: len(g.Guards) + 1}, {Guard: -1}, {Guard: math.MaxInt}, {Guard: 1, Neg: true}, {Guard: 1, Atom: api.Atom{Pred: 1}},
	} {
		wantNumber(t, s, g, l, 0, false)
	}
	wantNumber(t, s, g, api.Lit{Guard: 1, Atom: api.Atom{Args: []int{}}}, len(g.Lits)-4, true)
	// In a list that does not rise the first counts.
	other := loose(lit(rains), lit(old, ann), lit(old, ann), api.Lit{Guard: 1}, lit(old, ben), lit(rains))
	for n, want := range []int{0, 1, 1, 3, 4, 0} {
		wantNumber(t, s, other, other.Lits[n], want, true)
	}
	wantNumber(t, s, other, not(lit(rains)), 0, false)
}
