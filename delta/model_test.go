package delta_test

import (
	"slices"
	"testing"

	"lexprior/api"
	"lexprior/delta"
	"lexprior/naive"
	"lexprior/theory"
)

// model reads the chapter plainly: it keeps the facts, and asks for all marks from scratch at each change.
type model struct {
	theory  api.Theory
	facts   []int
	marks   []api.Marks
	touched []int // what the engine said to have been touched behind the last call that was OK
}

func solved(t testing.TB, x api.Theory, facts []int) []api.Marks {
	t.Helper()
	list, errno := naive.Solve(x, facts)
	if errno != api.OK {
		t.Fatalf("Solve(%s, %s): %d", told(x), told(facts), errno)
	}
	return list
}

func newModel(t testing.TB, x api.Theory) *model {
	t.Helper()
	return &model{theory: x, marks: solved(t, x, nil)}
}

func (m *model) copied() *model {
	return &model{m.theory, slices.Clone(m.facts), slices.Clone(m.marks), slices.Clone(m.touched)}
}

// fault: the first error that the chapter names.
func (m *model) fault(c call) api.Errno {
	if c.verb == setting {
		return theory.CheckFacts(m.theory, c.facts)
	}
	if c.lit < 0 || c.lit >= m.theory.Lits {
		return api.ErrArg
	}
	if slices.Contains(m.facts, c.lit) == (c.verb == adding) {
		return api.ErrFact
	}
	return api.OK
}

// do: what a call answers, and what came or went by it.
func (m *model) do(t testing.TB, c call) (answer, []int) {
	t.Helper()
	if errno := m.fault(c); errno != api.OK {
		return answer{errno: errno}, nil
	}
	was, facts := m.marks, m.facts
	switch c.verb {
	case adding:
		m.facts = slices.Clone(m.facts)
		insert(&m.facts, c.lit)
	case dropping:
		m.facts = without(m.facts, lits(c.lit))
	default:
		m.facts = slices.Clone(c.facts)
	}
	m.marks = solved(t, m.theory, m.facts)
	return answer{changes: differ(was, m.marks)}, slices.Concat(without(m.facts, facts), without(facts, m.facts))
}

// without: those of a list that are not in another one.
func without(list, other []int) []int {
	return slices.DeleteFunc(slices.Clone(list), func(lit int) bool { return slices.Contains(other, lit) })
}

// pair is an engine with its model.
type pair struct {
	engine *delta.Engine
	model  *model
}

func newPair(t testing.TB, x api.Theory) pair {
	t.Helper()
	p := pair{newEngine(t, x), newModel(t, x)}
	p.wantAll(t)
	return p
}

func (p pair) copied() pair {
	return pair{p.engine.Copy(), p.model.copied()}
}

// wantAll: an engine answers what its model says.
func (p pair) wantAll(t testing.TB) {
	t.Helper()
	wantState(t, p.engine, p.model.facts, p.model.marks)
	wantTouched(t, p.engine, p.model.touched...)
}

// step does a call to both, and holds them against each other; what was touched is held against the cone, and against what changed.
func (p pair) step(t testing.TB, c call) answer {
	t.Helper()
	facts := p.model.facts
	got := c.do(p.engine)
	want, turned := p.model.do(t, c)
	if !got.is(want) {
		t.Fatalf("P19.1: of %+v, by the facts %d: %+v: %+v, want %+v", p.model.theory, facts, c, got, want)
	}
	if got.errno == api.OK {
		p.model.touched = p.engine.Touched()
		p.wantCone(t, c, turned, got.changes)
	}
	p.wantAll(t)
	if t.Failed() {
		t.Fatalf("of %+v, by the facts %d: %+v: %+v", p.model.theory, facts, c, got)
	}
	return got
}

func (p pair) wantCone(t testing.TB, c call, turned []int, changes []api.Change) {
	t.Helper()
	cone, errno := theory.Cone(p.model.theory, turned)
	if errno != api.OK {
		t.Fatalf("Cone(%s, %d): %d", told(p.model.theory), turned, errno)
	}
	touched := p.model.touched
	if !slices.IsSorted(touched) || len(slices.Compact(slices.Clone(touched))) < len(touched) {
		t.Errorf("P19.2: %+v: Touched: %s does not rise", c, told(touched))
	}
	if more := without(touched, cone); len(more) > 0 {
		t.Errorf("P19.4: %+v: Touched: %s: %s is not in the cone %s", c, told(touched), told(more), told(cone))
	}
	for _, change := range changes {
		if !slices.Contains(touched, change.Lit) {
			t.Errorf("P19.4: %+v: Touched: %s: %d changed", c, told(touched), change.Lit)
		}
	}
}

// outsideMarks: of a change, the marks of the literals outside its cone on which something in it hangs.
func (p pair) outsideMarks() []api.Marks {
	cone := p.model.touched
	var all []api.Marks
	for _, one := range p.model.theory.Rules {
		if !slices.Contains(cone, one.Head) {
			continue
		}
		for _, lit := range without(one.Body, cone) {
			all = append(all, p.model.marks[lit])
		}
	}
	return all
}
