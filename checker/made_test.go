package checker_test

import (
	"math"
	"math/rand"
	"slices"

	"lexprior/api"
)

// maker makes theories that may be, steps and derivations.
type maker struct {
	chance *rand.Rand
}

func newMaker(seed int64) *maker {
	return &maker{chance: rand.New(rand.NewSource(seed))}
}

func (m *maker) oneIn(many int) bool {
	return m.chance.Intn(many) == 0
}

func pick[T any](m *maker, list ...T) T {
	return list[m.chance.Intn(len(list))]
}

// some: at most so many of the numbers below one, rising.
func (m *maker) some(most, below int) []int {
	var list []int
	for range m.chance.Intn(most + 1) {
		if below > 0 {
			insert(&list, m.chance.Intn(below))
		}
	}
	return list
}

// kinds: mostly defeasible rules; in some theories no strict ones, so that all literals have -D or +D.
func (m *maker) kinds() []api.Arrow {
	few := []api.Arrow{api.Defeasible, api.Defeasible, api.Defeasible, api.Defeater}
	return pick(m, few, few, append(few, api.Strict), []api.Arrow{api.Strict, api.Strict, api.Defeasible, api.Defeater})
}

// theory: of at most so many literals and rules.
func (m *maker) theory(lits, rules int) api.Theory {
	t := plain(m.chance.Intn(lits + 1))
	for range m.chance.Intn(t.Lits + 1) {
		enemies(&t, m.some(pick(m, 2, 2, 3), t.Lits)...)
	}
	longest := pick(m, 0, 1, 1, 2, 2, 3)
	kinds := m.kinds()
	// Some literals have no rules, so that more than circles are there.
	heads := pick(m, t.Lits, (t.Lits+1)/2, (3*t.Lits+3)/4)
	for range m.chance.Intn(rules + 1) {
		if t.Lits > 0 {
			t.Rules = append(t.Rules, rule(pick(m, kinds...), m.chance.Intn(heads), m.some(longest, t.Lits)...))
		}
	}
	m.superiority(&t)
	return t
}

// superiority: rules beat some of those that stand behind them in an order of chance.
func (m *maker) superiority(t *api.Theory) {
	order := m.chance.Perm(len(t.Rules))
	seldom := pick(m, 1, 2, 3, 8)
	t.Beats = make([][]int, len(t.Rules))
	for r := range t.Rules {
		for s := range t.Rules {
			if order[r] < order[s] && slices.Contains(t.Foes[t.Rules[r].Head], t.Rules[s].Head) && m.oneIn(seldom) {
				t.Beats[r] = append(t.Beats[r], s)
			}
		}
	}
}

// row: a theory of about so many literals in which rules mostly lead on by a few places, so that there are chains, and seldom back, so that some of them close. Foes stand beside each other.
func (m *maker) row(lits, rules int) api.Theory {
	t := plain(1 + lits/2 + m.chance.Intn(lits/2+1))
	for lit := 0; lit+1 < t.Lits; lit += pick(m, 2, 2, 3, 4) {
		enemies(&t, lit, lit+1)
	}
	kinds, reach, bare := m.kinds(), pick(m, 1, 2, 5), pick(m, 3, 3, 30)
	for range rules {
		head := m.chance.Intn(t.Lits)
		var body []int
		for range pick(m, 1, 1, 2) {
			if m.oneIn(bare) {
				break
			}
			insert(&body, (head+t.Lits-1-m.chance.Intn(min(t.Lits, reach)))%t.Lits)
		}
		t.Rules = append(t.Rules, rule(pick(m, kinds...), head, body...))
	}
	m.superiority(&t)
	return t
}

// any: a theory of one of the makers.
func (m *maker) any() api.Theory {
	return pick(m, m.theory, m.row)(pick(m, 3, 6, 12), pick(m, 4, 12, 24))
}

// odd: a number that may be, one beside that, or any.
func (m *maker) odd(below int) int {
	return pick(m, m.chance.Intn(max(below, 1)), m.chance.Intn(max(below, 1)), -1, -2, below, below+1, math.MaxInt, math.MinInt)
}

// change: a list has another number, one less, one more, or two in each other's place.
func (m *maker) change(list []int, below int) []int {
	list = slices.Clone(list)
	if len(list) == 0 {
		return []int{m.odd(below)}
	}
	at := m.chance.Intn(len(list))
	switch m.chance.Intn(4) {
	case 0:
		list[at] = m.odd(below)
	case 1:
		list = slices.Delete(list, at, at+1)
	case 2:
		list = slices.Insert(list, at, m.odd(below))
	default:
		list[0], list[at] = list[at], list[0]
	}
	return list
}

// spoil: something about a theory becomes another thing; it may still be one then.
func (m *maker) spoil(t *api.Theory) {
	switch m.chance.Intn(8) {
	case 0:
		t.Lits = pick(m, t.Lits-1, t.Lits+1, -1, 4097, math.MinInt, math.MaxInt)
	case 1:
		t.Foes = pick(m, append(t.Foes, nil), t.Foes[:len(t.Foes)/2])
	case 2:
		t.Beats = pick(m, append(t.Beats, nil), t.Beats[:len(t.Beats)/2])
	case 3:
		if len(t.Foes) > 0 {
			lit := m.chance.Intn(len(t.Foes))
			t.Foes[lit] = m.change(t.Foes[lit], t.Lits)
		}
	case 4:
		if len(t.Beats) > 0 {
			r := m.chance.Intn(len(t.Beats))
			t.Beats[r] = m.change(t.Beats[r], len(t.Rules))
		}
	default:
		if len(t.Rules) > 0 {
			m.spoilRule(&t.Rules[m.chance.Intn(len(t.Rules))], t.Lits)
		}
	}
}

func (m *maker) spoilRule(rule *api.Rule, lits int) {
	switch m.chance.Intn(3) {
	case 0:
		rule.Kind = api.Arrow(m.odd(4))
	case 1:
		rule.Head = m.odd(lits)
	default:
		rule.Body = m.change(rule.Body, lits)
	}
}

// step: one of the form, if there is one of what chance asks for: with any of the rules and choices that may be.
func (m *maker) step(x api.Theory) (api.Step, bool) {
	if x.Lits == 0 {
		return api.Step{}, false
	}
	asked := model{theory: x}
	s := api.Step{Tag: pick(m, tags...), Lit: m.chance.Intn(x.Lits), How: api.How(1 + m.chance.Intn(5)), Rule: -1}
	l, there := asked.line(s)
	if !there || len(l.may) == 0 {
		return api.Step{}, false
	}
	s.Rule = pick(m, l.may...)
	l, _ = asked.line(s) // which rules have a choice may hang on the Rule
	for _, r := range l.asked {
		may := asked.choices(l, s.Lit, r)
		if len(may) == 0 {
			return api.Step{}, false
		}
		s.Choices = append(s.Choices, pick(m, may...))
	}
	return s, true
}

// derivation: of steps that chance finds in so many tries, most of which follow in more than one way, and are said more than once.
func (m *maker) derivation(x api.Theory, facts []int, tries int) []api.Step {
	asked := model{theory: x, facts: facts}
	for range tries {
		if s, there := m.step(x); there && asked.fault(s) == "" {
			asked.ahead = append(asked.ahead, s)
		}
	}
	return asked.ahead
}

// spoilStep: one thing about a step becomes another; it may still follow then.
func (m *maker) spoilStep(x api.Theory, s api.Step) api.Step {
	s.Choices = slices.Clone(s.Choices)
	if n := len(s.Choices); n > 0 && m.oneIn(2) {
		at := m.chance.Intn(n)
		switch m.chance.Intn(5) {
		case 0:
			s.Choices[at].Place = m.odd(3)
		case 1:
			s.Choices[at].Rule = m.odd(len(x.Rules))
		case 2:
			s.Choices = slices.Delete(s.Choices, at, at+1)
		case 3:
			s.Choices[0], s.Choices[at] = s.Choices[at], s.Choices[0]
		default:
			s.Choices[at] = api.Choice{Place: -1, Rule: m.odd(len(x.Rules))}
		}
		return s
	}
	switch m.chance.Intn(6) {
	case 0:
		s.Tag = api.Tag(m.odd(5))
	case 1:
		s.Lit = m.odd(x.Lits)
	case 2:
		s.How = api.How(m.odd(6))
	case 3, 4:
		s.Rule = m.odd(len(x.Rules))
	default:
		s.Choices = append(s.Choices, api.Choice{Place: m.odd(2), Rule: m.odd(len(x.Rules))})
	}
	return s
}
