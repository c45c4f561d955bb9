package literals_test

import (
	"math"
	"math/rand"
	"slices"

	"lexprior/api"
)

// maker makes predicates, their classes, and literals.
type maker struct {
	chance *rand.Rand
	preds  []api.PredText
	class  []int
	sorts  []api.Sort
}

func newMaker(seed int64) *maker {
	return &maker{chance: rand.New(rand.NewSource(seed))}
}

func (m *maker) oneIn(many int) bool {
	return m.chance.Intn(many) == 0
}

func pick[T any](m *maker, list ...T) T {
	return list[m.chance.Intn(len(list))]
}

func some[T any](m *maker, most int, make func() T) []T {
	var things []T
	for range m.chance.Intn(most + 1) {
		things = append(things, make())
	}
	return things
}

func (m *maker) value() api.Money {
	return pick(m, 0, 0, 1, 2, 3, 10, -1, math.MaxInt64, api.Money(math.MinInt64))
}

func (m *maker) pred() api.PredText {
	p := api.PredText{Name: "p", Sort: pick(m, api.SortPlain, api.SortPlain, api.SortPlain, api.SortAmount, api.SortAmount, api.SortNumber, 0, 9)}
	p.Kinds = pick(m, nil, []string{"k"}, []string{"k"}, []string{"l"}, []string{"k", "l"})
	if p.Sort == api.SortAmount || m.oneIn(5) {
		p.Values = some(m, 5, m.value)
	}
	return p
}

// fresh: other predicates, classes and sorts, which fit each other.
func (m *maker) fresh() {
	m.preds = some(m, 7, m.pred)
	m.class, m.sorts = nil, sortsOf(m.preds)
	for range m.preds {
		m.class = append(m.class, pick(m, -1, -1, 0, 0, 0, 1, 77))
	}
}

func (m *maker) number() int {
	return m.chance.Intn(3)
}

// literal: most often one that may be.
func (m *maker) literal() api.Lit {
	if len(m.preds) == 0 || m.oneIn(10) {
		return guard(1 + m.chance.Intn(4))
	}
	pred := m.chance.Intn(len(m.preds))
	p := m.preds[pred]
	l := api.Lit{Neg: m.oneIn(3), Atom: api.Atom{Pred: pred}}
	for range p.Kinds {
		l.Atom.Args = append(l.Atom.Args, m.number())
	}
	if p.Sort == api.SortAmount && len(p.Values) > 0 {
		l.Atom.Value = pick(m, p.Values...)
	}
	return l
}

// spoilt: a literal of which one field is another.
func (m *maker) spoilt() api.Lit {
	l := m.literal()
	switch m.chance.Intn(7) {
	case 0:
		l.Neg = !l.Neg
	case 1:
		l.Atom.Pred = pick(m, -1, len(m.preds), len(m.preds)-1, 0, 1, 2, math.MinInt, math.MaxInt)
	case 2:
		l.Atom.Args = append(l.Atom.Args, m.number())
	case 3:
		l.Atom.Args = some(m, 2, m.number)
	case 4:
		if len(l.Atom.Args) > 0 {
			l.Atom.Args[m.chance.Intn(len(l.Atom.Args))] = pick(m, -1, 0, 3, 64, math.MaxInt, math.MinInt)
		}
	case 5:
		l.Atom.Value = m.value()
	case 6:
		l.Guard = pick(m, -1, 0, 1, 2, math.MinInt)
	}
	return l
}

// any: a literal that may be, or one that perhaps may not.
func (m *maker) any() api.Lit {
	if m.oneIn(3) {
		return m.spoilt()
	}
	return m.literal()
}

// list: literals, some of them twice.
func (m *maker) list(make func() api.Lit) []api.Lit {
	l := some(m, 8, make)
	if len(l) > 0 && m.oneIn(3) {
		l = append(l, pick(m, l...))
	}
	return l
}

// other: a list that is shorter or longer than it was, now and then.
func other[T any](m *maker, list []T, more T) []T {
	if m.oneIn(5) {
		return list[:m.chance.Intn(len(list)+1)]
	}
	if m.oneIn(8) {
		return append(slices.Clone(list), more)
	}
	return list
}
