package strict_test

import (
	"math"
	"math/rand"
	"slices"

	"lexprior/api"
)

// maker makes theories that may be.
type maker struct {
	chance *rand.Rand
}

func newMaker(seed int64) *maker {
	return &maker{chance: rand.New(rand.NewSource(seed))}
}

func (m *maker) oneIn(many int) bool {
	return m.chance.Intn(many) == 0
}

func pick[T any](m *maker, list ...T) T {
	return list[m.chance.Intn(len(list))]
}

// some: at most so many of the numbers below one, rising.
func (m *maker) some(most, below int) []int {
	var list []int
	for range m.chance.Intn(most + 1) {
		if below > 0 {
			list = append(list, m.chance.Intn(below))
		}
	}
	slices.Sort(list)
	return slices.Compact(list)
}

// kind: mostly strict.
func (m *maker) kind() api.Arrow {
	return pick(m, api.Strict, api.Strict, api.Strict, api.Strict, api.Defeasible, api.Defeater)
}

// theory: of at most so many literals and rules; rules beat those that stand behind them in an order of chance.
func (m *maker) theory(lits, rules int) api.Theory {
	t := plain(m.chance.Intn(lits + 1))
	for range m.chance.Intn(t.Lits + 1) {
		enemies(&t, m.some(pick(m, 2, 2, 3), t.Lits)...)
	}
	longest := pick(m, 1, 1, 2, 2, 3, 5)
	// Some literals have no rules, so that more than circles are there.
	heads := pick(m, t.Lits, (t.Lits+1)/2, (3*t.Lits+3)/4)
	for range m.chance.Intn(rules + 1) {
		if t.Lits > 0 {
			t.Rules = append(t.Rules, api.Rule{Kind: m.kind(), Head: m.chance.Intn(heads), Body: m.body(longest, t.Lits)})
		}
	}
	m.superiority(&t)
	return t
}

// body: seldom empty.
func (m *maker) body(most, lits int) []int {
	if body := m.some(most, lits); len(body) > 0 || m.oneIn(4) {
		return body
	}
	return []int{m.chance.Intn(lits)}
}

func (m *maker) superiority(t *api.Theory) {
	order := m.chance.Perm(len(t.Rules))
	t.Beats = make([][]int, len(t.Rules))
	for r := range t.Rules {
		for s := range t.Rules {
			if order[r] < order[s] && slices.Contains(t.Foes[t.Rules[r].Head], t.Rules[s].Head) && !m.oneIn(3) {
				t.Beats[r] = append(t.Beats[r], s)
			}
		}
	}
}

// straight: a theory whose strict rules have no circles: heads come behind their bodies in an order.
func (m *maker) straight(lits, rules int) api.Theory {
	t := pick(m, m.theory, m.row)(lits, rules)
	order := pick(m, m.chance.Perm(t.Lits), upTo(t.Lits))
	for r, rule := range t.Rules {
		if rule.Kind == api.Strict {
			t.Rules[r].Body = slices.DeleteFunc(rule.Body, func(lit int) bool { return order[lit] >= order[rule.Head] })
		}
	}
	return t
}

// row: a theory of about so many literals in which rules mostly lead on by a few places, so that there are chains, and seldom back, so that some of them close.
func (m *maker) row(lits, rules int) api.Theory {
	t := plain(1 + lits/2 + m.chance.Intn(lits/2+1))
	for range t.Lits / 2 {
		enemies(&t, m.some(2, t.Lits)...)
	}
	for range rules {
		head := m.chance.Intn(t.Lits)
		var body []int
		for range 1 + m.chance.Intn(3) {
			body = append(body, (head+t.Lits-1-m.chance.Intn(min(t.Lits, 5)))%t.Lits)
		}
		slices.Sort(body)
		t.Rules = append(t.Rules, api.Rule{Kind: m.kind(), Head: head, Body: slices.Compact(body)})
	}
	m.superiority(&t)
	return t
}

// odd: a number that may be, one beside that, or any.
func (m *maker) odd(below int) int {
	return pick(m, m.chance.Intn(max(below, 1)), m.chance.Intn(max(below, 1)), -1, below, below+1, math.MaxInt, math.MinInt)
}

// change: a list has another number, one less, one more, or two in each other's place.
func (m *maker) change(list []int, below int) []int {
	list = slices.Clone(list)
	if len(list) == 0 {
		return []int{m.odd(below)}
	}
	at := m.chance.Intn(len(list))
	switch m.chance.Intn(4) {
	case 0:
		list[at] = m.odd(below)
	case 1:
		list = slices.Delete(list, at, at+1)
	case 2:
		list = slices.Insert(list, at, m.odd(below))
	default:
		list[0], list[at] = list[at], list[0]
	}
	return list
}

// spoil: something about a theory becomes another thing; it may still be one then.
func (m *maker) spoil(t *api.Theory) {
	switch m.chance.Intn(8) {
	case 0:
		t.Lits = pick(m, t.Lits-1, t.Lits+1, -1, 4097, math.MinInt, math.MaxInt)
	case 1:
		t.Foes = pick(m, append(t.Foes, nil), t.Foes[:len(t.Foes)/2])
	case 2:
		t.Beats = pick(m, append(t.Beats, nil), t.Beats[:len(t.Beats)/2])
	case 3:
		if len(t.Foes) > 0 {
			lit := m.chance.Intn(len(t.Foes))
			t.Foes[lit] = m.change(t.Foes[lit], t.Lits)
		}
	case 4:
		if len(t.Beats) > 0 {
			r := m.chance.Intn(len(t.Beats))
			t.Beats[r] = m.change(t.Beats[r], len(t.Rules))
		}
	default:
		if len(t.Rules) > 0 {
			m.spoilRule(&t.Rules[m.chance.Intn(len(t.Rules))], t.Lits)
		}
	}
}

func (m *maker) spoilRule(rule *api.Rule, lits int) {
	switch m.chance.Intn(3) {
	case 0:
		rule.Kind = api.Arrow(m.odd(4))
	case 1:
		rule.Head = m.odd(lits)
	default:
		rule.Body = m.change(rule.Body, lits)
	}
}
