package facts_test

import (
	"math"
	"math/rand"
	"slices"

	"lexprior/api"
	"lexprior/guards"
)

// maker makes ground statutes and scripts of calls.
type maker struct {
	chance *rand.Rand
}

func newMaker(seed int64) *maker {
	return &maker{rand.New(rand.NewSource(seed))}
}

func (m *maker) oneIn(many int) bool {
	return m.chance.Intn(many) == 0
}

func pick[T any](m *maker, list ...T) T {
	return list[m.chance.Intn(len(list))]
}

// atom: one of few, so that guards often share them.
func (m *maker) atom() api.Atom {
	return pick(m, atom(income), atom(income, ann), atom(income, ann, ann), atom(income, ben), atom(rent), atom(rent, ann))
}

// anyAtom: one that a guard may have, or something beside it.
func (m *maker) anyAtom() api.Atom {
	a := m.atom()
	switch m.chance.Intn(25) {
	case 0:
		a.Value = pick[api.Money](m, 1, -1, math.MaxInt64)
	case 1:
		a.Pred = pick(m, -1, 2, math.MinInt)
	case 2:
		a.Args = append(a.Args, pick(m, 0, 2, -1, math.MaxInt))
	case 3:
		a.Args = make([]int, 3+m.chance.Intn(4))
	}
	return a
}

// value: most near 0, so that guards come and go; some at the bounds.
func (m *maker) value() api.Money {
	if m.oneIn(8) {
		return pick[api.Money](m, most, -most, most-1, 1-most)
	}
	return api.Money(m.chance.Intn(7) - 3)
}

func (m *maker) guard() api.Guard {
	g := api.Guard{Op: pick(m, allOps()...), Const: api.Money(m.chance.Intn(7) - 3)}
	if m.oneIn(8) {
		g.Const = pick[api.Money](m, greatestConst, -greatestConst, most, -most)
	}
	for range pick(m, 0, 1, 1, 1, 2, 2, 3, 5) {
		g.Terms = append(g.Terms, times(pick[int64](m, 1, 1, -1, 2, -2, greatestCoef, -greatestCoef), m.atom()))
	}
	slices.SortStableFunc(g.Terms, func(a, b api.Term) int { return guards.CompareAtoms(a.Atom, b.Atom) })
	g.Terms = slices.CompactFunc(g.Terms, func(a, b api.Term) bool { return alikeAtoms(a.Atom, b.Atom) })
	return g
}

// ground: plain literals and guards' ones mixed, guards in any order, some of them without a literal.
func (m *maker) ground() api.Ground {
	var g api.Ground
	for range m.chance.Intn(8) {
		g.Lits = append(g.Lits, api.Lit{Neg: m.oneIn(2), Atom: m.anyAtom()})
	}
	for n := range m.chance.Intn(10) {
		g.Guards = append(g.Guards, m.guard())
		if !m.oneIn(5) {
			g.Lits = append(g.Lits, api.Lit{Guard: n + 1})
		}
	}
	if m.oneIn(2) {
		m.chance.Shuffle(len(g.Lits), func(a, b int) { g.Lits[a], g.Lits[b] = g.Lits[b], g.Lits[a] })
	}
	g.Theory = m.theory(len(g.Lits))
	for range g.Theory.Rules {
		g.Schema = append(g.Schema, m.chance.Intn(3))
	}
	return g
}

// theory: pairs of foes that stand side by side, and some rules.
func (m *maker) theory(lits int) api.Theory {
	t := plain(lits)
	for lit := 0; lit+1 < lits; lit += 2 {
		if m.oneIn(2) {
			t.Foes[lit], t.Foes[lit+1] = []int{lit + 1}, []int{lit}
		}
	}
	for lit := range lits {
		if m.oneIn(2) {
			t.Rules = append(t.Rules, api.Rule{Kind: pick(m, api.Strict, api.Defeasible, api.Defeater), Head: lit, Body: []int{m.chance.Intn(lits)}})
		}
	}
	t.Beats = make([][]int, len(t.Rules))
	return t
}

// spoil: something about a ground statute becomes another thing; it may still be one then.
func (m *maker) spoil(g *api.Ground) {
	switch m.chance.Intn(6) {
	case 0:
		g.Lits = pick(m, append(g.Lits, api.Lit{}), g.Lits[:len(g.Lits)/2])
	case 1:
		g.Theory.Lits += pick(m, -1, 1, 5000)
	case 2:
		g.Guards = g.Guards[:len(g.Guards)/2]
	case 3:
		if len(g.Guards) > 0 {
			m.spoilGuard(&g.Guards[m.chance.Intn(len(g.Guards))])
		}
	default:
		if len(g.Lits) > 0 {
			many := len(g.Guards)
			g.Lits[m.chance.Intn(len(g.Lits))].Guard = pick(m, -1, many+1, math.MinInt, math.MaxInt, 0, many, m.chance.Intn(many+1))
		}
	}
}

func (m *maker) spoilGuard(g *api.Guard) {
	switch m.chance.Intn(4) {
	case 0:
		g.Op = pick[api.Op](m, 0, 7, 1, 6)
	case 1:
		g.Const = pick[api.Money](m, greatestConst+1, -greatestConst-1, math.MinInt64, greatestConst)
	case 2:
		g.Terms = append(g.Terms, g.Terms...)
	default:
		g.Terms = append(g.Terms, times(pick[int64](m, 0, 1, greatestCoef+1), m.anyAtom()))
	}
}

// call: most of them of things that there are.
func (m *maker) call(lits int) call {
	c := call{verb: pick(m, adding, removing, putting, putting, putting, putting, taking)}
	switch c.verb {
	case adding, removing:
		c.lit = pick(m, m.chance.Intn(lits+1), m.chance.Intn(lits+1), m.chance.Intn(lits+1), -1, lits, math.MinInt, math.MaxInt)
	default:
		c.atom = m.anyAtom()
	}
	if c.verb == putting {
		c.value = m.value()
		if m.oneIn(15) {
			c.value = pick[api.Money](m, most+1, -most-1, math.MinInt64, math.MaxInt64)
		}
	}
	return c
}
