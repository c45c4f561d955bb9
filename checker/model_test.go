package checker_test

import (
	"slices"

	"lexprior/api"
)

// model reads the chapter's table by going through all rules each time.
type model struct {
	theory api.Theory
	facts  []int
	ahead  []api.Step
}

// fault: what a step lacks, or nothing, if it follows.
func (m model) fault(s api.Step) string {
	needs, why := m.form(s)
	switch {
	case why != "":
		return why
	case s.Tag == api.PlusDelta && s.How == api.HowFact && !slices.Contains(m.facts, s.Lit):
		return "it is no fact"
	case s.Tag == api.MinusDelta && s.How == api.HowNone && slices.Contains(m.facts, s.Lit):
		return "it is a fact"
	}
	for _, need := range needs {
		if !slices.Contains(pairs(m.ahead), need) {
			return "not ahead"
		}
	}
	return ""
}

// rules: the numbers of those that are so.
func (m model) rules(so func(r int, rule api.Rule) bool) []int {
	var list []int
	for r, rule := range m.theory.Rules {
		if so(r, rule) {
			list = append(list, r)
		}
	}
	return list
}

func (m model) strict(q int) []int {
	return m.rules(func(_ int, rule api.Rule) bool { return rule.Head == q && rule.Kind == api.Strict })
}

func (m model) team(q int) []int {
	return m.rules(func(_ int, rule api.Rule) bool { return rule.Head == q && rule.Kind != api.Defeater })
}

func (m model) foes(q int) []int {
	return m.rules(func(_ int, rule api.Rule) bool { return slices.Contains(m.theory.Foes[q], rule.Head) })
}

func (m model) beaters(q, s int) []int {
	return m.rules(func(r int, rule api.Rule) bool {
		return rule.Head == q && rule.Kind != api.Defeater && slices.Contains(m.theory.Beats[r], s)
	})
}

// each: that tag of each of some literals.
func each(lits []int, tag api.Tag) []api.Pair {
	var list []api.Pair
	for _, lit := range lits {
		list = append(list, api.Pair{A: lit, B: int(tag)})
	}
	return list
}

// places: the choices that name a place in a rule's body.
func (m model) places(r int) []api.Choice {
	var list []api.Choice
	for place := range m.theory.Rules[r].Body {
		list = append(list, api.Choice{Place: place, Rule: -1})
	}
	return list
}

// line is what a row of the table asks of a step.
type line struct {
	may   []int // what Rule may be
	body  bool  // whether it needs +D or +d of Rule's body, as Tag is + or -
	asked []int // the rules that have a choice
	minus api.Tag
	own   bool // whether the choices may name rules for Lit that beat
	needs []api.Pair
}

// line: of a step whose Lit is a literal; or there is none.
func (m model) line(s api.Step) (line, bool) {
	q, foes, nothing := s.Lit, m.theory.Foes[s.Lit], lits(-1)
	type place struct {
		tag api.Tag
		how api.How
	}
	switch (place{s.Tag, s.How}) {
	case place{api.PlusDelta, api.HowFact}:
		return line{may: nothing}, true
	case place{api.PlusDelta, api.HowRule}:
		return line{may: m.strict(q), body: true}, true
	case place{api.MinusDelta, api.HowNone}:
		return line{may: nothing, asked: m.strict(q), minus: api.MinusDelta}, true
	case place{api.PlusPartial, api.HowStrict}:
		return line{may: nothing, needs: each(lits(q), api.PlusDelta)}, true
	case place{api.PlusPartial, api.HowRule}:
		return line{may: m.team(q), body: true, asked: m.foes(q), minus: api.MinusPartial, own: true, needs: each(foes, api.MinusDelta)}, true
	case place{api.MinusPartial, api.HowNone}:
		return line{may: nothing, asked: m.team(q), minus: api.MinusPartial, needs: each(lits(q), api.MinusDelta)}, true
	case place{api.MinusPartial, api.HowStrict}:
		return line{may: foes, needs: append(each(lits(q), api.MinusDelta), each(lits(s.Rule), api.PlusDelta)...)}, true
	case place{api.MinusPartial, api.HowBeaten}:
		return line{may: m.foes(q), body: true, asked: m.beaters(q, s.Rule), minus: api.MinusPartial, needs: each(lits(q), api.MinusDelta)}, true
	}
	return line{}, false
}

// choices: those of a rule that a line lets be.
func (m model) choices(l line, q, r int) []api.Choice {
	may := m.places(r)
	if l.own {
		for _, over := range m.beaters(q, r) {
			may = append(may, api.Choice{Place: -1, Rule: over})
		}
	}
	return may
}

// form: what must be ahead of a step, in any order; or why it is not of the form.
func (m model) form(s api.Step) ([]api.Pair, string) {
	if s.Lit < 0 || s.Lit >= m.theory.Lits {
		return nil, "no literal"
	}
	l, there := m.line(s)
	switch {
	case !there:
		return nil, "no row"
	case !slices.Contains(l.may, s.Rule):
		return nil, "no such rule"
	case len(s.Choices) != len(l.asked):
		return nil, "not as many choices"
	}
	plus := api.PlusPartial
	if s.Tag == api.PlusDelta {
		plus = api.PlusDelta
	}
	needs := l.needs
	if l.body {
		needs = append(needs, each(m.theory.Rules[s.Rule].Body, plus)...)
	}
	for n, c := range s.Choices {
		switch {
		case slices.Contains(m.places(l.asked[n]), c):
			needs = append(needs, each(m.theory.Rules[l.asked[n]].Body[c.Place:c.Place+1], l.minus)...)
		case l.own && c.Place == -1 && slices.Contains(m.beaters(s.Lit, l.asked[n]), c.Rule):
			needs = append(needs, each(m.theory.Rules[c.Rule].Body, plus)...)
		default:
			return nil, "no such choice"
		}
	}
	return needs, ""
}

// faults: all that model.fault can say.
func faults() []string {
	return []string{"", "no literal", "no row", "no such rule", "not as many choices", "no such choice", "it is no fact", "it is a fact", "not ahead"}
}

// needs: rising, each once.
func (m model) needs(s api.Step) []api.Pair {
	var rise []api.Pair
	needs, _ := m.form(s)
	for lit := range m.theory.Lits {
		for _, tag := range tags {
			if p := (api.Pair{A: lit, B: int(tag)}); slices.Contains(needs, p) {
				rise = append(rise, p)
			}
		}
	}
	return rise
}

// check: the first step that does not follow from those ahead, or how many there are.
func (m model) check(l []api.Step) (api.Errno, int) {
	for n, s := range l {
		m.ahead = l[:n]
		if m.fault(s) != "" {
			return api.ErrClaim, n
		}
	}
	return api.OK, len(l)
}

// modelCheck: what the chapter says of bytes over a theory and facts that may be: the steps that are shown, or the fault.
func modelCheck(x api.Theory, facts []int, b []byte) ([]api.Step, api.Errno, int) {
	l, errno, at := modelDecode(b)
	switch {
	case errno != api.OK:
		return nil, errno, at
	case len(l) == 0:
		return nil, api.ErrNone, 0
	}
	if errno, at := (model{theory: x, facts: facts}).check(l); errno != api.OK {
		return nil, errno, at
	}
	return l, api.OK, len(b)
}
