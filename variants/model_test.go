package variants_test

import (
	"slices"

	"lexprior/api"
)

// tag is what the model says of a literal.
type tag int

const (
	plusD tag = 1 << iota
	minusD
	plusV
	minusV
	plusS
	minusS
)

// model asks the conditions as the chapter reads, all by what the round ahead has said.
type model struct {
	theory   api.Theory
	facts    []int
	rulesFor [][]int // of each literal the rules for it
	said     []tag
}

func newModel(x api.Theory, facts []int) *model {
	m := &model{theory: x, facts: facts, rulesFor: make([][]int, x.Lits), said: make([]tag, x.Lits)}
	for r, rule := range x.Rules {
		m.rulesFor[rule.Head] = append(m.rulesFor[rule.Head], r)
	}
	return m
}

// bodyHas: how many literals of a rule's body have the tag.
func (m *model) bodyHas(r int, which tag) int {
	many := 0
	for _, lit := range m.theory.Rules[r].Body {
		if m.said[lit]&which != 0 {
			many++
		}
	}
	return many
}

func (m *model) wholeBody(r int, which tag) bool {
	return m.bodyHas(r, which) == len(m.theory.Rules[r].Body)
}

// rules: those for a literal, of these kinds.
func (m *model) rules(q int, kinds ...api.Arrow) []int {
	var list []int
	for _, r := range m.rulesFor[q] {
		if slices.Contains(kinds, m.theory.Rules[r].Kind) {
			list = append(list, r)
		}
	}
	return list
}

// team: R_sd.
func (m *model) team(q int) []int {
	return m.rules(q, api.Strict, api.Defeasible)
}

// against: all rules with a foe of the literal as head.
func (m *model) against(q int) []int {
	var list []int
	for _, foe := range m.theory.Foes[q] {
		list = append(list, m.rulesFor[foe]...)
	}
	return list
}

func (m *model) beats(one, other int) bool {
	return slices.Contains(m.theory.Beats[one], other)
}

// foeHas: has one of its foes the tag?
func (m *model) foeHas(q int, which tag) bool {
	return slices.ContainsFunc(m.theory.Foes[q], func(foe int) bool { return m.said[foe]&which != 0 })
}

// because: by which part of its condition a tag holds, or nothing.
func (m *model) because(which tag, q int) string {
	switch which {
	case plusD:
		return m.plusD(q)
	case minusD:
		return m.minusD(q)
	case plusV:
		return m.plusV(q)
	case minusV:
		return m.minusV(q)
	case plusS:
		return m.plusS(q)
	}
	return m.minusS(q)
}

func (m *model) plusD(q int) string {
	if slices.Contains(m.facts, q) {
		return "+D: a fact"
	}
	for _, r := range m.rules(q, api.Strict) {
		if m.wholeBody(r, plusD) {
			return "+D: a rule"
		}
	}
	return ""
}

func (m *model) minusD(q int) string {
	if slices.Contains(m.facts, q) {
		return ""
	}
	for _, r := range m.rules(q, api.Strict) {
		if m.bodyHas(r, minusD) == 0 {
			return ""
		}
	}
	return "-D"
}

func (m *model) plusS(q int) string {
	if m.said[q]&plusD != 0 {
		return "+s: by +D"
	}
	for _, r := range m.team(q) {
		if !m.wholeBody(r, plusS) {
			continue
		}
		because := "+s: unbeaten"
		for _, s := range m.against(q) {
			if !m.beats(s, r) {
				continue
			}
			if m.bodyHas(s, minusV) == 0 {
				because = ""
				break
			}
			because = "+s: what beats is refuted"
		}
		if because != "" {
			return because
		}
	}
	return ""
}

func (m *model) minusS(q int) string {
	if m.said[q]&minusD == 0 {
		return ""
	}
	because := "-s: no rule"
	for _, r := range m.team(q) {
		if m.bodyHas(r, minusS) > 0 {
			continue
		}
		beaten := false
		for _, s := range m.against(q) {
			if m.beats(s, r) && m.wholeBody(s, plusV) {
				beaten = true
			}
		}
		if !beaten {
			return ""
		}
		because = "-s: what supports is beaten"
	}
	return because
}

func (m *model) plusV(q int) string {
	if m.said[q]&plusD != 0 {
		return "+v: by +D"
	}
	if !slices.ContainsFunc(m.team(q), func(r int) bool { return m.wholeBody(r, plusV) }) {
		return ""
	}
	for _, foe := range m.theory.Foes[q] {
		if m.said[foe]&minusD == 0 {
			return ""
		}
	}
	because := "+v: unopposed"
	for _, s := range m.against(q) {
		if m.bodyHas(s, minusS) > 0 {
			because = max(because, "+v: what has no support is against it")
			continue
		}
		beaten := false
		for _, t := range m.team(q) {
			beaten = beaten || m.beats(t, s) && m.wholeBody(t, plusV)
		}
		if !beaten {
			return ""
		}
		because = "+v: what is beaten is against it"
	}
	return because
}

func (m *model) minusV(q int) string {
	if m.said[q]&minusD == 0 {
		return ""
	}
	if !slices.ContainsFunc(m.team(q), func(r int) bool { return m.bodyHas(r, minusV) == 0 }) {
		return "-v: no rule"
	}
	if m.foeHas(q, plusD) {
		return "-v: a foe"
	}
	for _, s := range m.against(q) {
		if !m.wholeBody(s, plusS) {
			continue
		}
		because := "-v: by a foe's rule"
		for _, t := range m.team(q) {
			switch {
			case !m.beats(t, s):
			case m.bodyHas(t, minusV) > 0:
				because = max(because, "-v: what beats is refuted")
			default:
				because = "~"
			}
		}
		if because != "~" {
			return because
		}
	}
	return ""
}

// reasons: all that because can say.
func reasons() []string {
	return []string{
		"+D: a fact", "+D: a rule", "-D",
		"+s: by +D", "+s: unbeaten", "+s: what beats is refuted",
		"-s: no rule", "-s: what supports is beaten",
		"+v: by +D", "+v: unopposed", "+v: what has no support is against it", "+v: what is beaten is against it",
		"-v: no rule", "-v: a foe", "-v: by a foe's rule", "-v: what beats is refuted",
	}
}

// round: whether something came.
func (m *model) round(seen tally) bool {
	next := slices.Clone(m.said)
	for q := range next {
		for which := plusD; which <= minusS; which <<= 1 {
			if m.said[q]&which != 0 {
				continue
			}
			if because := m.because(which, q); because != "" {
				next[q] |= which
				seen[because]++
			}
		}
	}
	came := !slices.Equal(next, m.said)
	m.said = next
	return came
}

// solved: round by round from nothing; each tag by what it came of is counted.
func solved(x api.Theory, facts []int, seen tally) *model {
	m := newModel(x, facts)
	for rounds := 0; m.round(seen); rounds++ {
		if rounds == 6 {
			seen["more than 6 rounds"]++
		}
	}
	return m
}

func (m *model) propagated() []api.Marks {
	return m.marks(plusV, minusV)
}

func (m *model) supported() []api.Marks {
	return m.marks(plusS, minusS)
}

// marks: as calls tell them.
func (m *model) marks(plus, minus tag) []api.Marks {
	list := make([]api.Marks, len(m.said))
	for q, said := range m.said {
		for place, which := range []tag{plusD, minusD, plus, minus} {
			if said&which != 0 {
				list[q] += 1 << place
			}
		}
	}
	return list
}
