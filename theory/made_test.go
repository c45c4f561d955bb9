package theory_test

import (
	"math"
	"math/rand"
	"slices"

	"lexprior/api"
)

// maker makes theories that may be.
type maker struct {
	chance *rand.Rand
}

func newMaker(seed int64) *maker {
	return &maker{chance: rand.New(rand.NewSource(seed))}
}

func (m *maker) oneIn(many int) bool {
	return m.chance.Intn(many) == 0
}

func pick[T any](m *maker, list ...T) T {
	return list[m.chance.Intn(len(list))]
}

// some: at most so many of the numbers below one, rising.
func (m *maker) some(most, below int) []int {
	var list []int
	for range m.chance.Intn(most + 1) {
		if below > 0 {
			list = append(list, m.chance.Intn(below))
		}
	}
	slices.Sort(list)
	return slices.Compact(list)
}

// theory: of at most so many literals and rules; rules beat those that stand behind them in an order of chance.
func (m *maker) theory(lits, rules int) api.Theory {
	t := plain(m.chance.Intn(lits + 1))
	// Rules for few literals, which are foes, are in conflict often; rules for many have more layers.
	few := pick(m, min(3, t.Lits), t.Lits)
	for range m.chance.Intn(t.Lits + 1) {
		enemies(&t, m.some(pick(m, 2, 2, 3), pick(m, few, t.Lits))...)
	}
	if t.Lits > 0 {
		for range m.chance.Intn(rules + 1) {
			kind := pick(m, api.Strict, api.Defeasible, api.Defeater)
			head := m.chance.Intn(few)
			t.Rules = append(t.Rules, api.Rule{Kind: kind, Head: head, Body: m.some(pick(m, 0, 1, 1, 2, 4), t.Lits)})
		}
	}
	order := m.chance.Perm(len(t.Rules))
	t.Beats = make([][]int, len(t.Rules))
	for r := range t.Rules {
		for s := range t.Rules {
			if order[r] < order[s] && slices.Contains(t.Foes[t.Rules[r].Head], t.Rules[s].Head) && !m.oneIn(3) {
				t.Beats[r] = append(t.Beats[r], s)
			}
		}
	}
	return t
}

// odd: a number that may be, one beside that, or any.
func (m *maker) odd(below int) int {
	return pick(m, m.chance.Intn(max(below, 1)), m.chance.Intn(max(below, 1)), -1, below, below+1, math.MaxInt, math.MinInt)
}

// change: a list has another number, one less, one more, or two in each other's place.
func (m *maker) change(list []int, below int) []int {
	list = slices.Clone(list)
	if len(list) == 0 {
		return []int{m.odd(below)}
	}
	at := m.chance.Intn(len(list))
	switch m.chance.Intn(4) {
	case 0:
		list[at] = m.odd(below)
	case 1:
		list = slices.Delete(list, at, at+1)
	case 2:
		list = slices.Insert(list, at, m.odd(below))
	default:
		list[0], list[at] = list[at], list[0]
	}
	return list
}

// spoil: something about a theory becomes another thing; it may still be one then.
func (m *maker) spoil(t *api.Theory) {
	switch m.chance.Intn(10) {
	case 0:
		t.Lits = pick(m, t.Lits-1, t.Lits+1, -1, 4097, math.MinInt, math.MaxInt)
	case 1:
		t.Foes = pick(m, append(t.Foes, nil), t.Foes[:len(t.Foes)/2])
	case 2:
		t.Beats = pick(m, append(t.Beats, nil), t.Beats[:len(t.Beats)/2])
	case 3, 4:
		if len(t.Foes) > 0 {
			lit := m.chance.Intn(len(t.Foes))
			t.Foes[lit] = m.change(t.Foes[lit], t.Lits)
		}
	case 5, 6:
		if len(t.Rules) > 0 {
			m.spoilRule(&t.Rules[m.chance.Intn(len(t.Rules))], t.Lits)
		}
	default:
		if len(t.Beats) > 0 {
			r := m.chance.Intn(len(t.Beats))
			t.Beats[r] = m.change(t.Beats[r], len(t.Rules))
		}
	}
}

func (m *maker) spoilRule(rule *api.Rule, lits int) {
	switch m.chance.Intn(3) {
	case 0:
		rule.Kind = api.Arrow(m.odd(4))
	case 1:
		rule.Head = m.odd(lits)
	default:
		rule.Body = m.change(rule.Body, lits)
	}
}

// turn: a rule beats one of those whose heads are foes of its own, whichever way the order goes.
func (m *maker) turn(t *api.Theory) {
	if len(t.Rules) == 0 {
		return
	}
	r := m.chance.Intn(len(t.Rules))
	for s, other := range t.Rules {
		if slices.Contains(t.Foes[t.Rules[r].Head], other.Head) && m.oneIn(2) {
			t.Beats[r] = append(t.Beats[r], s)
		}
	}
	slices.Sort(t.Beats[r])
	t.Beats[r] = slices.Compact(t.Beats[r])
}

// spoilBytes: a byte becomes another one, goes, comes, or they end.
func (m *maker) spoilBytes(b []byte) []byte {
	at := m.chance.Intn(len(b))
	other := byte(pick(m, m.chance.Intn(8), m.chance.Intn(256), 0, 1, 0x80))
	switch m.chance.Intn(6) {
	case 0:
		return b[:at]
	case 1:
		return slices.Delete(b, at, at+1)
	case 2:
		return slices.Insert(b, at, other)
	case 3:
		return slices.Concat(b[:at], number(m.chance.Uint64()>>m.chance.Intn(64)), b[at+1:])
	default:
		b[at] = other
		return b
	}
}
