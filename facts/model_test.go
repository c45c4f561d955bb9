package facts_test

import (
	"math/big"
	"slices"
	"testing"

	"lexprior/api"
	"lexprior/facts"
	"lexprior/guards"
	"lexprior/theory"
)

// model reads the chapter plainly: it keeps what was said, and finds everything else anew when it is asked.
type model struct {
	ground  api.Ground
	added   []int
	numbers []api.Number // in the order in which they came
}

func modelMay(g api.Ground) bool {
	if errno, _ := theory.Check(g.Theory); errno != api.OK || len(g.Lits) != g.Theory.Lits {
		return false
	}
	for lit, l := range g.Lits {
		ahead := func(other api.Lit) bool { return other.Guard == l.Guard }
		if l.Guard != 0 && (l.Guard < 1 || l.Guard > len(g.Guards) || slices.ContainsFunc(g.Lits[:lit], ahead)) {
			return false
		}
	}
	return !slices.ContainsFunc(g.Guards, func(one api.Guard) bool { return guards.Check(one) != api.OK })
}

func placeOf(l []api.Number, a api.Atom) int {
	return slices.IndexFunc(l, func(n api.Number) bool { return alikeAtoms(n.Atom, a) })
}

func modelHolds(g api.Guard, l []api.Number) bool {
	if guards.Check(g) != api.OK {
		return false
	}
	sum := big.NewInt(int64(g.Const))
	for _, term := range g.Terms {
		place := placeOf(l, term.Atom)
		if place < 0 {
			return false
		}
		part := big.NewInt(term.Coef)
		sum.Add(sum, part.Mul(part, big.NewInt(int64(l[place].Value))))
	}
	return takes(g.Op, sum.Sign())
}

func (m *model) facts() []int {
	var all []int
	for lit, l := range m.ground.Lits {
		if l.Guard == 0 && slices.Contains(m.added, lit) || l.Guard > 0 && modelHolds(m.ground.Guards[l.Guard-1], m.numbers) {
			all = append(all, lit)
		}
	}
	return all
}

// atoms: those of the guards, by their first places.
func (m *model) atoms() []api.Atom {
	var all []api.Atom
	for _, g := range m.ground.Guards {
		for _, term := range g.Terms {
			if !slices.ContainsFunc(all, func(a api.Atom) bool { return alikeAtoms(a, term.Atom) }) {
				all = append(all, term.Atom)
			}
		}
	}
	return all
}

func (m *model) list() []api.Number {
	var all []api.Number
	for _, a := range m.atoms() {
		if place := placeOf(m.numbers, a); place >= 0 {
			all = append(all, m.numbers[place])
		}
	}
	return all
}

func (m *model) copied() *model {
	return &model{m.ground, slices.Clone(m.added), slices.Clone(m.numbers)}
}

// verb is what a call asks for.
type verb int

const (
	adding verb = iota
	removing
	putting
	taking
)

// call is one that changes a store.
type call struct {
	verb  verb
	lit   int
	atom  api.Atom
	value api.Money
}

// answer is what such a call says; of Add and Remove the error alone.
type answer struct {
	came  []int
	went  []int
	errno api.Errno
}

func (a answer) is(other answer) bool {
	return slices.Equal(a.came, other.came) && slices.Equal(a.went, other.went) && a.errno == other.errno
}

func (c call) do(s *facts.Store) answer {
	var a answer
	switch c.verb {
	case adding:
		a.errno = s.Add(c.lit)
	case removing:
		a.errno = s.Remove(c.lit)
	case putting:
		a.came, a.went, a.errno = s.Put(c.atom, c.value)
	default:
		a.came, a.went, a.errno = s.Take(c.atom)
	}
	return a
}

// fault: the first error that the chapter names.
func (m *model) fault(c call) api.Errno {
	if c.verb == adding || c.verb == removing {
		if c.lit < 0 || c.lit >= len(m.ground.Lits) || m.ground.Lits[c.lit].Guard != 0 {
			return api.ErrLit
		}
		if slices.Contains(m.added, c.lit) == (c.verb == adding) {
			return api.ErrFact
		}
		return api.OK
	}
	if !slices.ContainsFunc(m.atoms(), func(a api.Atom) bool { return alikeAtoms(a, c.atom) }) {
		return api.ErrGuard
	}
	if c.verb == putting && (c.value < -most || c.value > most) {
		return api.ErrOver
	}
	if c.verb == taking && placeOf(m.numbers, c.atom) < 0 {
		return api.ErrFact
	}
	return api.OK
}

func (m *model) do(c call) answer {
	if errno := m.fault(c); errno != api.OK {
		return answer{errno: errno}
	}
	was := m.facts()
	place := placeOf(m.numbers, c.atom)
	switch c.verb {
	case adding:
		m.added = append(m.added, c.lit)
		return answer{}
	case removing:
		m.added = without(m.added, []int{c.lit})
		return answer{}
	case putting:
		if place >= 0 {
			m.numbers = slices.Delete(m.numbers, place, place+1)
		}
		m.numbers = append(m.numbers, number(c.atom, c.value))
	default:
		m.numbers = slices.Delete(m.numbers, place, place+1)
	}
	return answer{came: without(m.facts(), was), went: without(was, m.facts())}
}

// without: those of a list that are not in another one.
func without(list, other []int) []int {
	return slices.DeleteFunc(slices.Clone(list), func(lit int) bool { return slices.Contains(other, lit) })
}

// wantAll: a store answers what a model of it says.
func wantAll(t testing.TB, s *facts.Store, m *model) {
	t.Helper()
	wantFacts(t, s, m.facts()...)
	wantNumbers(t, s, m.list()...)
	for _, a := range m.atoms() {
		if placeOf(m.numbers, a) < 0 {
			wantValue(t, s, a, 0, false)
		}
		wantValue(t, s, worth(a, 1), 0, false)
	}
}
