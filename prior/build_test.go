package prior_test

import (
	"math"
	"testing"

	"lexprior/api"
	"lexprior/prior"
)

// household has rules a[ann] a[ben], b[ann] b[ben], c[ann] c[ben], d, e: 0 to 7.
const household = `kind person. member ann, ben : person.
pred old(person). pred rich(person). amount help(person) : 10, 20, 30.
source act rank 2. source decree rank 1.
rule a of act at 2001-01-01 : old(X) => help(X) = 20.
rule b of decree at 2009-01-01 : rich(X) => help(X) = 10.
rule c of act at 2005-01-01 : rich(X) ~> -help(X) = 20.
rule d of decree at 2009-01-01 : => help(ann) = 30.
rule e of act at 2001-01-01 : -> old(ben).
`

func TestBuild(t *testing.T) {
	for _, c := range []struct {
		excepts string
		beats   [][]int
	}{
		{"", [][]int{{2, 6}, {3}, {}, {}, {0}, {1}, {}, {}}},
		{"exception d to a.", [][]int{{2}, {3}, {}, {}, {0}, {1}, {0}, {}}},
		{"exception d to b.", [][]int{{2, 6}, {3}, {}, {}, {0}, {1}, {2}, {}}},
		{"exception a to c.", [][]int{{2, 4, 6}, {3, 5}, {}, {}, {}, {}, {}, {}}},
		{"exception a to b.", [][]int{{2, 6}, {3}, {}, {}, {0}, {1}, {}, {}}},
		{"exception b to a. exception d to a. exception d to b.", [][]int{{}, {}, {0}, {1}, {0}, {1}, {0, 2}, {}}},
	} {
		s := parsed(t, household+c.excepts)
		wantBuilt(t, s, grounded(t, s), c.beats)
	}
	// Ann's rules alone go round: b over a, a over d, d over b.
	s := parsed(t, household+"exception b to a. exception d to b.")
	wantAmong(t, s, grounded(t, s), 0, 2, 6)
}

// TestClasses: literals of one class are foes, too.
func TestClasses(t *testing.T) {
	s := parsed(t, `pred single. pred married. pred rains. class single, married. source act rank 1.
		rule a of act at 2001-01-03 : => single. rule b of act at 2001-01-02 : => married. rule c of act at 2001-01-04 : => -single.
		rule d of act at 2001-01-05 : => rains. rule e of act at 2001-01-01 : => married. rule f of act at 2001-01-06 : -> -rains.`)
	wantBuilt(t, s, grounded(t, s), [][]int{{1, 4}, {}, {0}, {}, {}, {3}})
}

// TestKinds: whatever the rules are, one beats another.
func TestKinds(t *testing.T) {
	kinds := []api.Arrow{api.Strict, api.Defeasible, api.Defeater}
	for _, one := range kinds {
		for _, other := range kinds {
			g := inConflict(2)
			g.Theory.Rules[0].Kind, g.Theory.Rules[1].Kind = one, other
			wantBuilt(t, later(2), g, [][]int{{1}, {}})
			wantRound(t, excepted(later(2), api.Pair{A: 0, B: 1}, api.Pair{A: 1, B: 0}), g)
		}
	}
}

func TestNothing(t *testing.T) {
	wantBuilt(t, api.Statute{}, api.Ground{}, nil)
	wantBuilt(t, later(3), api.Ground{}, nil)
	wantBuilt(t, later(3), heads(nil, []int{0, 1, 2}), nil)
	wantBuilt(t, later(3), api.Ground{Theory: api.Theory{Beats: [][]int{{7}}}}, nil)
}

// TestNoFoes: heads that are the same, or in no conflict; exceptions change nothing there.
func TestNoFoes(t *testing.T) {
	both := []api.Pair{{A: 0, B: 1}, {A: 1, B: 0}, {A: 0, B: 0}, {A: 2, B: 2}}
	for _, s := range []api.Statute{later(3), excepted(later(3), both...)} {
		wantBuilt(t, s, heads([]int{0, 0, 0}), make([][]int, 3))
		wantBuilt(t, s, heads([]int{0, 1, 2}), make([][]int, 3))
		wantBuilt(t, s, heads([]int{0, 1, 2}, []int{3, 4}, []int{1, 2}), [][]int{{}, {2}, {}})
		// Foes of a foe are none.
		wantBuilt(t, s, heads([]int{0, 2, 1}, []int{0, 1}, []int{1, 2}), [][]int{{2}, {2}, {}})
	}
}

// TestSeveralOfASchema: the schemas of rules are in any order; those of one beat nothing of their own, unless it is an exception to itself.
func TestSeveralOfASchema(t *testing.T) {
	g := inConflict(5)
	g.Schema = []int{1, 0, 2, 0, 1}
	wantBuilt(t, later(4), g, [][]int{{2}, {0, 2, 4}, {}, {0, 2, 4}, {2}})
	g.Schema = []int{3, 3, 3, 3, 3}
	wantBuilt(t, later(4), g, make([][]int, 5))
	if cycle := wantRound(t, excepted(later(4), api.Pair{A: 3, B: 3}), g); len(cycle) < 2 {
		t.Errorf("P13.4: the rule %d beats itself", cycle)
	}
	g.Schema = []int{3, 2, 1, 0, 2}
	wantBuilt(t, excepted(later(4), api.Pair{A: 3, B: 3}), g, [][]int{{}, {0}, {0, 1, 4}, {0, 1, 2, 4}, {0}})
}

// TestExceptionToItself: of a statute's own ground that changes nothing, since rules of one schema are in no conflict.
func TestExceptionToItself(t *testing.T) {
	s := parsed(t, household+"exception a to a. exception d to d.")
	wantBuilt(t, s, grounded(t, s), [][]int{{2, 6}, {3}, {}, {}, {0}, {1}, {}, {}})
}

// TestBeatsAreNotAsked: neither how many lists there are, nor what stands in them.
func TestBeatsAreNotAsked(t *testing.T) {
	for _, beats := range [][][]int{
		nil, {}, {{}}, make([][]int, 3), make([][]int, 9), {{1, 2}, {2}, {}}, {{}, {0}, {0, 1}},
		{{1}, {0}, {}}, {{0}, {1}, {2}}, {{-1}, {3}, {math.MaxInt, math.MinInt}}, {{2, 1, 1}, {}, {}}, {{1}, {2}, {0}}, {{1}, {0}},
	} {
		g := inConflict(3)
		g.Theory.Beats = beats
		wantBuilt(t, later(3), g, [][]int{{1, 2}, {2}, {}})
		wantRound(t, excepted(later(3), api.Pair{A: 2, B: 0}), g)
	}
}

// TestBuiltAnew: what Build answered is answered again.
func TestBuiltAnew(t *testing.T) {
	s := parsed(t, household)
	first, errno, _ := prior.Build(s, grounded(t, s))
	if errno != api.OK {
		t.Fatalf("P13.2: Build: %d", errno)
	}
	wantBuilt(t, s, first, first.Theory.Beats)
	wantBuilt(t, excepted(s, api.Pair{A: 3, B: 0}), first, [][]int{{2}, {3}, {}, {}, {0}, {1}, {0}, {}})
}

// TestGroundsThatNoCallMade: of literals and guards nothing is asked; they are answered as they are.
func TestGroundsThatNoCallMade(t *testing.T) {
	g := inConflict(2)
	g.Lits = []api.Lit{{Neg: true, Atom: api.Atom{Pred: -5, Args: []int{7, -7}, Value: math.MinInt64}, Guard: 9}, {}, {Guard: -1}}
	g.Guards = []api.Guard{{}, {Terms: []api.Term{{Coef: 3, Atom: api.Atom{Pred: 1, Args: []int{-2}, Value: 8}}, {}}, Const: -1, Op: 77}}
	wantBuilt(t, later(2), g, [][]int{{1}, {}})
	g.Theory.Rules[1].Body = []int{0, 1}
	wantBuilt(t, later(2), g, [][]int{{1}, {}})
}

func TestSchemaNumbers(t *testing.T) {
	for _, list := range [][]int{
		nil, {}, {0}, {0, 1}, {0, 1, 2, 0}, {0, 1, 2, 3}, {0, 1, 2, -1}, upTo(4097),
		{0, 1, 3}, {3, 1, 2}, {0, -1, 2}, {-1, 1, 2}, {0, 1, math.MaxInt}, {math.MinInt, 0, 0}, {0, 1 << 32, 0},
	} {
		g := inConflict(3)
		g.Schema = list
		wantRefused(t, "Schema", later(3), g, api.ErrArg)
	}
	none := heads(nil, []int{0, 1})
	for _, list := range [][]int{{0}, {-1}, {5}} {
		none.Schema = list
		wantRefused(t, "Schema without rules", later(3), none, api.ErrArg)
	}
	wantRefused(t, "no schemas", api.Statute{}, heads([]int{0}), api.ErrArg)
	g := inConflict(3)
	g.Schema = []int{0, 1, 2}
	wantBuilt(t, later(3), g, [][]int{{1, 2}, {2}, {}})
	wantRefused(t, "one schema less", later(2), g, api.ErrArg)
}

// wrong is a fault of what Build is given.
type wrong struct {
	what  string
	errno api.Errno
	spoil func(s *api.Statute, g *api.Ground)
}

// addRules: so many more for a literal, of the schema with its number.
func addRules(g *api.Ground, lit, many int) {
	for range many {
		g.Theory.Rules = append(g.Theory.Rules, api.Rule{Kind: api.Strict, Head: lit})
		g.Schema = append(g.Schema, lit)
	}
}

// wrongs: in the chapter's order.
func wrongs() []wrong {
	return []wrong{
		{"too many schemas", api.ErrCount, func(s *api.Statute, g *api.Ground) { s.Rules = make([]api.RuleText, 513) }},
		{"a source that there is not", api.ErrSource, func(s *api.Statute, g *api.Ground) { s.Rules[1].Source = "none" }},
		{"an exception that there is twice", api.ErrTwice, func(s *api.Statute, g *api.Ground) {
			s.Excepts = append(s.Excepts, api.Exception{Over: "r1", Under: "r1"}, api.Exception{Over: "r1", Under: "r1"})
		}},
		{"Lits", api.ErrLits, func(s *api.Statute, g *api.Ground) { g.Theory.Lits = 4097 }},
		{"a list of foes less", api.ErrFoe, func(s *api.Statute, g *api.Ground) { g.Theory.Foes = g.Theory.Foes[:1] }},
		{"a foe that is not returned", api.ErrFoe, func(s *api.Statute, g *api.Ground) { g.Theory.Foes[1] = nil }},
		{"too many rules", api.ErrGround, func(s *api.Statute, g *api.Ground) { addRules(g, 0, 4095) }},
		{"a rule of no kind", api.ErrRule, func(s *api.Statute, g *api.Ground) { g.Theory.Rules[1].Kind = 0 }},
		{"too many pairs", api.ErrPairs, func(s *api.Statute, g *api.Ground) { addRules(g, 0, 98); addRules(g, 1, 330) }},
		{"Schema too long", api.ErrArg, func(s *api.Statute, g *api.Ground) { g.Schema = append(g.Schema, 0) }},
		{"no such schema", api.ErrArg, func(s *api.Statute, g *api.Ground) { g.Schema[0] = 2 }},
		{"a circle", api.ErrPriorityCycle, func(s *api.Statute, g *api.Ground) {
			*s = excepted(*s, api.Pair{A: 0, B: 1}, api.Pair{A: 1, B: 0})
		}},
	}
}

// TestWrong: each fault by itself, and each two: the first one is told.
func TestWrong(t *testing.T) {
	all := wrongs()
	for i, first := range all {
		for j, second := range all[i:] {
			s, g := later(2), inConflict(2)
			if j > 0 {
				second.spoil(&s, &g)
			}
			first.spoil(&s, &g)
			if first.errno == api.ErrPriorityCycle {
				wantRound(t, s, g)
			} else {
				wantRefused(t, first.what+", "+second.what, s, g, first.errno)
			}
		}
	}
}

// TestWrongStatutes: each that resolve.Check refuses, with its error, whatever the ground.
func TestWrongStatutes(t *testing.T) {
	for errno, s := range refused() {
		wantRefused(t, "a wrong statute", s, inConflict(2), errno)
		wantRefused(t, "a wrong statute", s, api.Ground{}, errno)
		wantRefused(t, "a wrong statute", s, api.Ground{Theory: api.Theory{Lits: -1}, Schema: []int{-1}}, errno)
	}
}

// TestWrongTheories: a few of each kind that theory.Check refuses.
func TestWrongTheories(t *testing.T) {
	for _, c := range []struct {
		errno api.Errno
		spoil func(x *api.Theory)
	}{
		{api.ErrLits, func(x *api.Theory) { x.Lits = -1 }},
		{api.ErrLits, func(x *api.Theory) { x.Lits = math.MaxInt }},
		{api.ErrFoe, func(x *api.Theory) { x.Lits = 4 }},
		{api.ErrFoe, func(x *api.Theory) { x.Foes = nil }},
		{api.ErrFoe, func(x *api.Theory) { x.Foes[0] = []int{2, 1} }},
		{api.ErrFoe, func(x *api.Theory) { x.Foes[2] = []int{0, 1, 2} }},
		{api.ErrFoe, func(x *api.Theory) { x.Foes[2] = []int{0, 1, 3} }},
		{api.ErrFoe, func(x *api.Theory) { x.Foes[2] = []int{-1, 0, 1} }},
		{api.ErrRule, func(x *api.Theory) { x.Rules[2].Kind = 4 }},
		{api.ErrRule, func(x *api.Theory) { x.Rules[2].Head = 3 }},
		{api.ErrRule, func(x *api.Theory) { x.Rules[0].Head = -1 }},
		{api.ErrRule, func(x *api.Theory) { x.Rules[1].Body = []int{1, 0} }},
		{api.ErrRule, func(x *api.Theory) { x.Rules[1].Body = []int{3} }},
	} {
		g := inConflict(3)
		c.spoil(&g.Theory)
		for _, s := range []api.Statute{later(3), excepted(later(3), api.Pair{A: 2, B: 0}), later(1), {}} {
			wantRefused(t, "a wrong theory", s, g, c.errno)
		}
	}
}
