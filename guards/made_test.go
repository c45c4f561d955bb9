package guards_test

import (
	"math"
	"math/rand"
	"slices"

	"lexprior/api"
	"lexprior/money"
)

// maker makes texts, guards and numbers, over house.
type maker struct {
	chance *rand.Rand
}

func newMaker(seed int64) *maker {
	return &maker{rand.New(rand.NewSource(seed))}
}

func (m *maker) oneIn(many int) bool {
	return m.chance.Intn(many) == 0
}

func pick[T any](m *maker, list ...T) T {
	return list[m.chance.Intn(len(list))]
}

// some: from least to most things.
func some[T any](m *maker, least, most int, make func() T) []T {
	var things []T
	for range least + m.chance.Intn(most-least+1) {
		things = append(things, make())
	}
	return things
}

func (m *maker) op() api.Op {
	return pick(m, allOps()...)
}

func (m *maker) name() string {
	return pick(m, "X", "X", "Y", "Y", "ann", "ben", "cem")
}

func (m *maker) money() api.Money {
	return pick[api.Money](m, 0, 1, -1, 500, -700, money.Most, -money.Most, api.Money(m.chance.Int63n(2*money.Most+1)-money.Most))
}

func (m *maker) termText() api.TermText {
	if m.oneIn(4) {
		return moneyText(m.money())
	}
	coef := pick[int64](m, 1, 1, -1, 2, -2, 1000, -1000, m.chance.Int63n(2001)-1000)
	if coef == 0 {
		coef = 7
	}
	pred := pick(m, "income", "income", "rent", "rate", "shared")
	return textOf(coef, pred, some(m, 0, 2, m.name)...)
}

func (m *maker) text() api.GuardText {
	most := pick(m, 2, 4, 8)
	return compared(m.op(), some(m, 1, most, m.termText), some(m, 1, most, m.termText))
}

// asked: what Of takes.
func (m *maker) asked() asked {
	return asked{m.text(), []string{"X", "Y"}, []int{m.chance.Intn(3), m.chance.Intn(5)}}
}

// spoil: one thing of what Of is asked with becomes another, most often one that may not be.
func (m *maker) spoil(a *asked) {
	side := pick(m, &a.text.Left, &a.text.Right)
	var term *api.TermText
	if len(*side) > 0 {
		term = &(*side)[m.chance.Intn(len(*side))]
	} else {
		term = new(api.TermText)
	}
	switch m.chance.Intn(9) {
	case 0:
		a.names = pick(m, nil, a.names[:len(a.names)/2], append(slices.Clone(a.names), "X"))
	case 1:
		a.text.Op = pick[api.Op](m, -1, 0, 7, math.MinInt)
	case 2:
		*side = pick(m, nil, append(slices.Clone(*side), (*side)...), slices.Repeat(*side, 9))
	case 3:
		term.Pred = pick(m, "", "none", "X", "old", "help")
	case 4:
		term.Coef = pick[int64](m, 0, 1001, -1001, math.MinInt64, math.MaxInt64)
	case 5:
		term.Value = pick[api.Money](m, money.Most+1, -money.Most-1, math.MinInt64, math.MaxInt64, 3)
	case 6:
		term.Args = append(slices.Clone(term.Args), some(m, 1, 4, m.name)...)
	case 7:
		term.Args = append(slices.Clone(term.Args), pick(m, "none", "Z", ""))
	case 8:
		a.members = slices.Clone(a.members)
		if len(a.members) > 0 {
			a.members[m.chance.Intn(len(a.members))] = pick(m, -1, math.MinInt, math.MaxInt, 3)
		}
	}
}

func (m *maker) atom() api.Atom {
	return api.Atom{Pred: m.chance.Intn(4), Args: some(m, 0, 2, func() int { return m.chance.Intn(3) })}
}

func (m *maker) cents() api.Money {
	return pick[api.Money](m, 0, 0, 1, -1, -500, 50, greatestConst, -greatestConst, api.Money(m.chance.Int63n(2*greatestConst+1)-greatestConst))
}

// guard: one that may be.
func (m *maker) guard() api.Guard {
	var terms []api.Term
	for _, one := range some(m, 0, pick(m, 1, 3, 8), m.atom) {
		place, there := slices.BinarySearchFunc(terms, one, func(t api.Term, a api.Atom) int { return compareAtomRows(t.Atom, a) })
		if !there {
			terms = slices.Insert(terms, place, times(pick[int64](m, 1, -1, 2, -3, 1000, greatestCoef, -greatestCoef), one))
		}
	}
	return guard(m.op(), m.cents(), terms...)
}

// spoiltAtom: one of which a field is another.
func (m *maker) spoiltAtom(a api.Atom) api.Atom {
	switch m.chance.Intn(4) {
	case 0:
		a.Pred = pick(m, -1, math.MinInt, preds, 2)
	case 1:
		a.Args = append(slices.Clone(a.Args), pick(m, -1, math.MinInt, members, 2))
	case 2:
		a.Args = append(slices.Clone(a.Args), 0, 1, 2, 3, 0)[:3+m.chance.Intn(3)]
	case 3:
		a.Value = pick[api.Money](m, 1, -1, math.MaxInt64, math.MinInt64)
	}
	return a
}

// spoilt: a guard of which something is another.
func (m *maker) spoilt() api.Guard {
	g := m.guard()
	term := new(api.Term)
	if len(g.Terms) > 0 {
		term = &g.Terms[m.chance.Intn(len(g.Terms))]
	}
	switch m.chance.Intn(6) {
	case 0:
		g.Op = pick[api.Op](m, 0, -1, 7, math.MaxInt)
	case 1:
		g.Const = pick[api.Money](m, greatestConst+1, -greatestConst-1, math.MinInt64, math.MaxInt64)
	case 2:
		term.Coef = pick[int64](m, 0, greatestCoef+1, -greatestCoef-1, math.MinInt64, math.MaxInt64)
	case 3:
		term.Atom = m.spoiltAtom(term.Atom)
	case 4:
		g.Terms = append(g.Terms, times(1, m.atom()))
	case 5:
		term.Atom = m.atom()
	}
	return g
}

// any: a guard that may be, or one that perhaps may not.
func (m *maker) any() api.Guard {
	if m.oneIn(3) {
		return m.spoilt()
	}
	return m.guard()
}

func (m *maker) value() api.Money {
	return pick[api.Money](m, 0, 1, -1, 500, m.money(), m.money(), math.MaxInt64, math.MinInt64, api.Money(m.chance.Uint64()))
}

func (m *maker) number() api.Number {
	return number(m.atom(), m.value())
}

// allNumbers: of all atoms that m.atom makes, and of more members; in no order, some twice.
func (m *maker) allNumbers() []api.Number {
	var l []api.Number
	for pred := range 4 {
		l = append(l, number(atom(pred), m.value()))
		for a := range 5 {
			l = append(l, number(atom(pred, a), m.value()))
			for b := range 5 {
				l = append(l, number(atom(pred, a, b), m.value()))
			}
		}
	}
	l = append(l, some(m, 0, 50, m.number)...)
	m.chance.Shuffle(len(l), func(i, j int) { l[i], l[j] = l[j], l[i] })
	return l
}

// numbers: for Truth; of all atoms, or of some.
func (m *maker) numbers() []api.Number {
	if m.oneIn(3) {
		return some(m, 0, 20, m.number)
	}
	return m.allNumbers()
}

// rising: numbers that may be, most often.
func (m *maker) rising() []api.Number {
	l := some(m, 0, 6, func() api.Number { return number(m.atom(), m.money()) })
	slices.SortFunc(l, func(a, b api.Number) int { return compareAtomRows(a.Atom, b.Atom) })
	if !m.oneIn(4) {
		l = slices.CompactFunc(l, func(a, b api.Number) bool { return alikeAtoms(a.Atom, b.Atom) })
	}
	for range m.chance.Intn(3) {
		if len(l) == 0 || m.oneIn(2) {
			continue
		}
		one := &l[m.chance.Intn(len(l))]
		switch m.chance.Intn(3) {
		case 0:
			one.Atom = m.spoiltAtom(one.Atom)
		case 1:
			one.Value = pick[api.Money](m, money.Most+1, -money.Most-1, math.MinInt64)
		case 2:
			one.Atom = m.atom()
		}
	}
	return l
}
