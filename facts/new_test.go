package facts_test

import (
	"math"
	"slices"
	"testing"

	"lexprior/api"
	"lexprior/theory"
)

// wrongTheories: over house's six literals, of each way in which a theory may not be one.
func wrongTheories() map[string]func(t *api.Theory) {
	return map[string]func(t *api.Theory){
		"Lits below 0":      func(t *api.Theory) { t.Lits = -1 },
		"foes too few":      func(t *api.Theory) { t.Foes = t.Foes[:5] },
		"foes too many":     func(t *api.Theory) { t.Foes = append(t.Foes, nil) },
		"a foe of itself":   func(t *api.Theory) { t.Foes[5] = []int{5} },
		"no such foe":       func(t *api.Theory) { t.Foes[5] = []int{6} },
		"not returned":      func(t *api.Theory) { t.Foes[4] = []int{5} },
		"a foe twice":       func(t *api.Theory) { t.Foes[0] = []int{2, 2} },
		"no such kind":      func(t *api.Theory) { t.Rules[0].Kind = 4 },
		"no such head":      func(t *api.Theory) { t.Rules[0].Head = 6 },
		"a falling body":    func(t *api.Theory) { t.Rules[0].Body = []int{5, 1} },
		"beats too few":     func(t *api.Theory) { t.Beats = t.Beats[:1] },
		"beats no foe":      func(t *api.Theory) { t.Beats[0] = []int{0} },
		"beats in a circle": func(t *api.Theory) { t.Beats[1] = []int{0} },
		"too many rules":    func(t *api.Theory) { t.Rules = slices.Repeat(t.Rules[1:2], 4097) },
		"too many pairs": func(t *api.Theory) {
			t.Rules = slices.Repeat(t.Rules, 200)
			t.Beats = make([][]int, len(t.Rules))
		},
	}
}

// TestWrongTheory: whatever the literals and guards are.
func TestWrongTheory(t *testing.T) {
	for what, spoil := range wrongTheories() {
		g := house()
		spoil(&g.Theory)
		if errno, _ := theory.Check(g.Theory); errno == api.OK {
			t.Errorf("%s: the theory may be", what)
		}
		wantRefused(t, what, g)
		g.Lits, g.Guards = nil, nil
		wantRefused(t, what+", without literals", g)
	}
	wantRefused(t, "too many literals", groundOf(4097))
}

// TestNumberOfLiterals: it is the theory's.
func TestNumberOfLiterals(t *testing.T) {
	for _, many := range []int{0, 1, 5, 7, 12} {
		g := house()
		g.Lits = slices.Concat(g.Lits, make([]api.Lit, 6))[:many]
		wantRefused(t, "another number of literals", g)
	}
	wantRefused(t, "a literal and no theory", api.Ground{Lits: make([]api.Lit, 1)})
	wantRefused(t, "a theory and no literal", api.Ground{Theory: plain(1)})
	for _, many := range []int{0, 1, 2, 4095, 4096} {
		wantFacts(t, newStore(t, groundOf(many)))
	}
}

// TestGuardNumbers: each literal's is 0 or a guard's that no literal ahead has.
func TestGuardNumbers(t *testing.T) {
	for lit := range 6 {
		for _, n := range []int{-1, -3, 6, 7, math.MinInt, math.MaxInt} {
			g := house()
			g.Lits[lit].Guard = n
			wantRefused(t, "a Guard that is none", g)
		}
		for other := range 6 {
			g := house()
			if g.Lits[other].Guard == 0 || lit == other {
				continue
			}
			g.Lits[lit].Guard = g.Lits[other].Guard
			wantRefused(t, "two literals of one guard", g)
		}
		g := house()
		g.Lits[lit].Guard = 0
		newStore(t, g)
		g.Lits[lit].Guard = 2
		newStore(t, g)
	}
	g := house()
	g.Guards = g.Guards[:4]
	wantRefused(t, "a Guard past the last guard", g)
	g.Guards = nil
	wantRefused(t, "Guards without guards", g)
	for n := range 6 {
		g := groundOf(0, house().Guards...)
		g.Theory, g.Lits = plain(6), append(g.Lits, api.Lit{Guard: n})
		if n > 0 {
			wantRefused(t, "a guard's second literal", g)
		} else {
			newStore(t, g)
		}
	}
}

// TestWrongGuard: in each place, with a literal and without one.
func TestWrongGuard(t *testing.T) {
	for what, wrong := range wrongGuards() {
		for n := range 5 {
			g := house()
			g.Guards[n] = wrong
			wantRefused(t, what, g)
		}
		g := house()
		g.Guards = append(g.Guards, wrong)
		wantRefused(t, what+", the last", g)
		wantRefused(t, what+", alone", groundOf(0, wrong))
		wantRefused(t, what+", without literals", api.Ground{Guards: []api.Guard{wrong}})
	}
}

// TestWhatMayBe: nothing else is asked: neither what literals say, nor that each guard has one, nor schemas.
func TestWhatMayBe(t *testing.T) {
	wantFacts(t, newStore(t, api.Ground{}))
	wantFacts(t, newStore(t, api.Ground{Guards: []api.Guard{guard(api.OpMost, 0), guard(api.OpMost, 0)}}))
	g := house()
	for lit := range g.Lits {
		g.Lits[lit].Neg, g.Lits[lit].Atom = true, worth(atom(-5, -1, -2, -3, -4, -5, -6), -1)
	}
	g.Schema = []int{-1, math.MaxInt, 3, 3}
	s := newStore(t, g)
	wantAdd(t, s, 4, api.OK)
	wantPut(t, s, atom(income, ann), 9999, []int{3}, nil, api.OK)
	wantFacts(t, s, 3, 4)
	g.Schema = nil
	g.Guards = slices.Repeat(g.Guards[:1], 5)
	s = newStore(t, g)
	wantPut(t, s, atom(income, ann), 9999, []int{1, 3, 5}, nil, api.OK)
	wantNumbers(t, s, number(atom(income, ann), 9999))
}

// TestHoldAtOnce: guards without atoms, of each Op below, at and above 0; those with atoms do not.
func TestHoldAtOnce(t *testing.T) {
	var all []api.Guard
	var want []int
	for _, op := range allOps() {
		for _, cents := range []api.Money{-greatestConst, -1, 0, 1, greatestConst} {
			sign := 0
			if cents != 0 {
				sign = int(cents / max(cents, -cents))
			}
			if takes(op, sign) {
				want = append(want, 2+len(all))
			}
			all = append(all, guard(op, cents), guard(op, cents, times(1, atom(income, ann))))
		}
	}
	s := newStore(t, groundOf(2, all...))
	wantFacts(t, s, want...)
	wantNumbers(t, s)
	if len(want) != 15 {
		t.Errorf("%d of 30 guards hold", len(want))
	}
	for _, lit := range want {
		wantAdd(t, s, lit, api.ErrLit)
		wantRemove(t, s, lit, api.ErrLit)
	}
	wantFacts(t, s, want...)
}
