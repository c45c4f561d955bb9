package delta_test

import (
	"math"
	"math/rand"
	"slices"

	"lexprior/api"
)

// maker makes theories that may be, and calls.
type maker struct {
	chance *rand.Rand
}

func newMaker(seed int64) *maker {
	return &maker{chance: rand.New(rand.NewSource(seed))}
}

func (m *maker) oneIn(many int) bool {
	return m.chance.Intn(many) == 0
}

func pick[T any](m *maker, list ...T) T {
	return list[m.chance.Intn(len(list))]
}

// some: at most so many of the numbers below one, rising.
func (m *maker) some(most, below int) []int {
	var list []int
	for range m.chance.Intn(most + 1) {
		if below > 0 {
			insert(&list, m.chance.Intn(below))
		}
	}
	return list
}

// kinds: mostly defeasible rules; in some theories no strict ones, so that all literals have -D or +D.
func (m *maker) kinds() []api.Arrow {
	few := []api.Arrow{api.Defeasible, api.Defeasible, api.Defeasible, api.Defeater}
	return pick(m, few, few, append(few, api.Strict), []api.Arrow{api.Strict, api.Strict, api.Defeasible, api.Defeater})
}

// theory: of at most so many literals and rules.
func (m *maker) theory(lits, rules int) api.Theory {
	t := plain(m.chance.Intn(lits + 1))
	for range m.chance.Intn(t.Lits + 1) {
		enemies(&t, m.some(pick(m, 2, 2, 3), t.Lits)...)
	}
	longest := pick(m, 0, 1, 1, 2, 2, 3)
	kinds := m.kinds()
	heads := pick(m, t.Lits, (t.Lits+1)/2, (3*t.Lits+3)/4)
	for range m.chance.Intn(rules + 1) {
		if t.Lits > 0 {
			t.Rules = append(t.Rules, rule(pick(m, kinds...), m.chance.Intn(heads), m.some(longest, t.Lits)...))
		}
	}
	m.superiority(&t)
	return t
}

// superiority: rules beat some of those that stand behind them in an order of chance.
func (m *maker) superiority(t *api.Theory) {
	order := m.chance.Perm(len(t.Rules))
	seldom := pick(m, 1, 2, 3, 8)
	t.Beats = make([][]int, len(t.Rules))
	for r := range t.Rules {
		for s := range t.Rules {
			if order[r] < order[s] && slices.Contains(t.Foes[t.Rules[r].Head], t.Rules[s].Head) && m.oneIn(seldom) {
				t.Beats[r] = append(t.Beats[r], s)
			}
		}
	}
}

// row: a theory of about so many literals in which rules mostly lead on by a few places, so that there are chains, and seldom back, so that some of them close. Foes stand beside each other.
func (m *maker) row(lits, rules int) api.Theory {
	t := plain(1 + lits/2 + m.chance.Intn(lits/2+1))
	for lit := 0; lit+1 < t.Lits; lit += pick(m, 2, 2, 3, 4) {
		enemies(&t, lit, lit+1)
	}
	kinds, reach, bare := m.kinds(), pick(m, 1, 2, 5), pick(m, 3, 3, 30)
	for range rules {
		head := m.chance.Intn(t.Lits)
		var body []int
		for range pick(m, 1, 1, 2) {
			if m.oneIn(bare) {
				break
			}
			insert(&body, (head+t.Lits-1-m.chance.Intn(min(t.Lits, reach)))%t.Lits)
		}
		t.Rules = append(t.Rules, rule(pick(m, kinds...), head, body...))
	}
	m.superiority(&t)
	return t
}

// stairs: literals by their layers, with circles within a layer; rules lead down alone, so that a change has much outside its cone, with marks of all kinds.
func (m *maker) stairs(most, rules int) api.Theory {
	t := plain(1 + m.chance.Intn(most))
	wide := pick(m, 1, 2, 3)
	for lit := 0; lit+1 < t.Lits; lit += pick(m, 2, 3, 5) {
		if lit/wide == (lit+1)/wide {
			enemies(&t, lit, lit+1)
		}
	}
	kinds := m.kinds()
	for range m.chance.Intn(rules + 1) {
		head := m.chance.Intn(t.Lits)
		body := m.some(pick(m, 1, 2, 3, 5), min(t.Lits, (head/wide+1)*wide))
		if m.oneIn(5) {
			body = lits(head)
		}
		t.Rules = append(t.Rules, rule(pick(m, kinds...), head, body...))
	}
	m.superiority(&t)
	return m.renamed(t)
}

// renamed: the same theory with its literals' numbers mixed up.
func (m *maker) renamed(t api.Theory) api.Theory {
	to := m.chance.Perm(t.Lits)
	moved := func(list []int) []int {
		var others []int
		for _, lit := range list {
			insert(&others, to[lit])
		}
		return others
	}
	other := plain(t.Lits)
	for lit, foes := range t.Foes {
		other.Foes[to[lit]] = moved(foes)
	}
	for _, one := range t.Rules {
		other.Rules = append(other.Rules, rule(one.Kind, to[one.Head], moved(one.Body)...))
	}
	other.Beats = t.Beats
	return other
}

// any: a theory of one of the makers.
func (m *maker) any() api.Theory {
	return pick(m, m.theory, m.row, m.stairs, m.stairs)(pick(m, 3, 6, 12, 20), pick(m, 4, 12, 30))
}

// odd: a number that may be, one beside that, or any.
func (m *maker) odd(below int) int {
	return pick(m, m.chance.Intn(max(below, 1)), m.chance.Intn(max(below, 1)), -1, below, below+1, math.MaxInt, math.MinInt)
}

// change: a list has another number, one less, one more, or two in each other's place.
func (m *maker) change(list []int, below int) []int {
	list = slices.Clone(list)
	if len(list) == 0 {
		return []int{m.odd(below)}
	}
	at := m.chance.Intn(len(list))
	switch m.chance.Intn(4) {
	case 0:
		list[at] = m.odd(below)
	case 1:
		list = slices.Delete(list, at, at+1)
	case 2:
		list = slices.Insert(list, at, m.odd(below))
	default:
		list[0], list[at] = list[at], list[0]
	}
	return list
}

// spoil: something about a theory becomes another thing; it may still be one then.
func (m *maker) spoil(t *api.Theory) {
	switch m.chance.Intn(8) {
	case 0:
		t.Lits = pick(m, t.Lits-1, t.Lits+1, -1, 4097, math.MinInt, math.MaxInt)
	case 1:
		t.Foes = pick(m, append(t.Foes, nil), t.Foes[:len(t.Foes)/2])
	case 2:
		t.Beats = pick(m, append(t.Beats, nil), t.Beats[:len(t.Beats)/2])
	case 3:
		if len(t.Foes) > 0 {
			lit := m.chance.Intn(len(t.Foes))
			t.Foes[lit] = m.change(t.Foes[lit], t.Lits)
		}
	case 4:
		if len(t.Beats) > 0 {
			r := m.chance.Intn(len(t.Beats))
			t.Beats[r] = m.change(t.Beats[r], len(t.Rules))
		}
	default:
		if len(t.Rules) > 0 {
			m.spoilRule(&t.Rules[m.chance.Intn(len(t.Rules))], t.Lits)
		}
	}
}

func (m *maker) spoilRule(rule *api.Rule, lits int) {
	switch m.chance.Intn(3) {
	case 0:
		rule.Kind = api.Arrow(m.odd(4))
	case 1:
		rule.Head = m.odd(lits)
	default:
		rule.Body = m.change(rule.Body, lits)
	}
}

// call: one of the three, of any literal or facts; some are refused.
func (m *maker) call(lits int) call {
	lit := m.chance.Intn(max(lits, 1))
	if m.oneIn(12) {
		lit = m.odd(lits)
	}
	if !m.oneIn(6) {
		return pick(m, add, add, drop)(lit)
	}
	facts := m.some(pick(m, 0, 2, 5, 2*lits), lits)
	if m.oneIn(4) {
		facts = m.change(facts, lits)
	}
	return set(facts...)
}
