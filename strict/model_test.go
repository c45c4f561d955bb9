package strict_test

import (
	"slices"

	"lexprior/api"
)

// model is what the conditions say, round by round over all literals and rules: a literal that is not there has 0.
type model struct {
	theory api.Theory
	facts  []int
	plus   []int // of each literal the round of its +D
	minus  []int // and of its -D
}

func newModel(x api.Theory, facts []int) *model {
	m := &model{x, facts, make([]int, x.Lits), make([]int, x.Lits)}
	for round := 1; m.round(round); round++ {
	}
	return m
}

// round says all that follows by earlier rounds; was there anything new?
func (m *model) round(n int) bool {
	plus, minus := slices.Clone(m.plus), slices.Clone(m.minus)
	more := false
	for q := range m.theory.Lits {
		if m.plus[q] == 0 && m.hasPlus(q) {
			plus[q], more = n, true
		}
		if m.minus[q] == 0 && m.hasMinus(q) {
			minus[q], more = n, true
		}
	}
	m.plus, m.minus = plus, minus
	return more
}

func (m *model) isFact(q int) bool {
	return slices.Contains(m.facts, q)
}

// rules: the strict ones for a literal.
func (m *model) rules(q int) []int {
	var rules []int
	for r, rule := range m.theory.Rules {
		if rule.Head == q && rule.Kind == api.Strict {
			rules = append(rules, r)
		}
	}
	return rules
}

func (m *model) hasPlus(q int) bool {
	if m.isFact(q) {
		return true
	}
	return slices.ContainsFunc(m.rules(q), func(r int) bool {
		return !slices.ContainsFunc(m.theory.Rules[r].Body, func(a int) bool { return m.plus[a] == 0 })
	})
}

func (m *model) hasMinus(q int) bool {
	if m.isFact(q) {
		return false
	}
	return !slices.ContainsFunc(m.rules(q), func(r int) bool {
		return !slices.ContainsFunc(m.theory.Rules[r].Body, func(a int) bool { return m.minus[a] > 0 })
	})
}

// lists: those with +D, with -D, with neither, and the heights.
func (m *model) lists() (plus, minus, neither, heights []int) {
	for q := range m.theory.Lits {
		heights = append(heights, m.plus[q]+m.minus[q])
		if m.plus[q] > 0 {
			plus = append(plus, q)
		}
		if m.minus[q] > 0 {
			minus = append(minus, q)
		}
		if m.plus[q] == 0 && m.minus[q] == 0 {
			neither = append(neither, q)
		}
	}
	return plus, minus, neither, heights
}

func (m *model) loop(q int) ([]int, api.Errno) {
	if m.plus[q] > 0 || m.minus[q] > 0 {
		return nil, api.ErrNone
	}
	list := []int{q}
	for {
		q = m.behind(q)
		again := slices.Contains(list, q)
		list = append(list, q)
		if again {
			return list, api.OK
		}
	}
}

// behind: the next one of a loop.
func (m *model) behind(q int) int {
	for _, r := range m.rules(q) {
		first, refuted := -1, false
		for _, a := range m.theory.Rules[r].Body {
			if m.minus[a] > 0 {
				refuted = true
			}
			if m.plus[a] == 0 && first < 0 {
				first = a
			}
		}
		if !refuted {
			return first
		}
	}
	return -1
}

func (m *model) clash() []api.Pair {
	var pairs []api.Pair
	for a := range m.theory.Lits {
		for b := a + 1; b < m.theory.Lits; b++ {
			if slices.Contains(m.theory.Foes[a], b) && m.plus[a] > 0 && m.plus[b] > 0 {
				pairs = append(pairs, api.Pair{A: a, B: b})
			}
		}
	}
	return pairs
}

func (m *model) least(q int) ([]int, api.Errno) {
	if m.plus[q] == 0 {
		return nil, api.ErrNone
	}
	all := m.below(q)
	slices.Sort(all)
	return slices.Compact(all), api.OK
}

// below: the facts that are met, each as many times as it is.
func (m *model) below(q int) []int {
	if m.isFact(q) {
		return []int{q}
	}
	for _, r := range m.rules(q) {
		body := m.theory.Rules[r].Body
		if slices.ContainsFunc(body, func(a int) bool { return m.plus[a] == 0 || m.plus[a] >= m.plus[q] }) {
			continue
		}
		var all []int
		for _, a := range body {
			all = append(all, m.below(a)...)
		}
		return all
	}
	panic("a literal with +D rests on nothing")
}
