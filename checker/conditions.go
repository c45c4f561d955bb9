package checker

import "lexprior/api"

// condition gives up where the step, whose Lit is a literal, does not follow.
type condition func(s api.Step)

// conditions: the table of steps, by Tag - 1 and How - 1; nil where it has no row.
func (p *proof) conditions() [4][5]condition {
	return [4][5]condition{
		api.PlusDelta - 1:    {api.HowFact - 1: p.byFact, api.HowRule - 1: p.byStrictRule},
		api.MinusDelta - 1:   {api.HowNone - 1: p.byNoStrictRule},
		api.PlusPartial - 1:  {api.HowStrict - 1: p.byPlusDelta, api.HowRule - 1: p.byRule},
		api.MinusPartial - 1: {api.HowNone - 1: p.byNoRule, api.HowStrict - 1: p.byStrictFoe, api.HowBeaten - 1: p.byFoesRule},
	}
}

// byFact: +D.
func (p *proof) byFact(s api.Step) {
	p.ask(p.fact[s.Lit])
	p.ask(s.Rule == none)
	p.ask(len(s.Choices) == 0)
}

// byStrictRule: +D.
func (p *proof) byStrictRule(s api.Step) {
	p.ask(p.isStrictFor(s.Lit, s.Rule))
	p.ask(len(s.Choices) == 0)
	p.askBody(s.Rule, api.PlusDelta)
}

// byNoStrictRule: -D.
func (p *proof) byNoStrictRule(s api.Step) {
	p.ask(!p.fact[s.Lit])
	p.ask(s.Rule == none)
	p.askRefuted(p.strictFor[s.Lit], s.Choices, api.MinusDelta)
}

// byPlusDelta: +d.
func (p *proof) byPlusDelta(s api.Step) {
	p.ask(s.Rule == none)
	p.ask(len(s.Choices) == 0)
	p.askAhead(s.Lit, api.PlusDelta)
}

// byRule: +d.
func (p *proof) byRule(s api.Step) {
	p.ask(p.isOfTeam(s.Lit, s.Rule))
	p.askBody(s.Rule, api.PlusPartial)
	for _, foe := range p.theory.Foes[s.Lit] {
		p.askAhead(foe, api.MinusDelta)
	}
	against := p.against[s.Lit]
	p.ask(len(s.Choices) == len(against))
	for n, r := range against {
		if c := s.Choices[n]; c.Place == none {
			p.askBeaten(s.Lit, r, c)
		} else {
			p.askRefutedAt(r, c, api.MinusPartial)
		}
	}
}

// byNoRule: -d.
func (p *proof) byNoRule(s api.Step) {
	p.ask(s.Rule == none)
	p.askAhead(s.Lit, api.MinusDelta)
	p.askRefuted(p.teamOf[s.Lit], s.Choices, api.MinusPartial)
}

// byStrictFoe: -d. Rule is a literal's number here.
func (p *proof) byStrictFoe(s api.Step) {
	p.ask(p.areFoes(s.Lit, s.Rule))
	p.ask(len(s.Choices) == 0)
	p.askAhead(s.Lit, api.MinusDelta)
	p.askAhead(s.Rule, api.PlusDelta)
}

// byFoesRule: -d.
func (p *proof) byFoesRule(s api.Step) {
	p.ask(p.isAgainst(s.Lit, s.Rule))
	p.askAhead(s.Lit, api.MinusDelta)
	p.askBody(s.Rule, api.PlusPartial)
	p.askRefuted(p.beaters(s.Lit, s.Rule), s.Choices, api.MinusPartial)
}

// askRefuted: there is one choice for each of the rules, in their order, and it refutes it.
func (p *proof) askRefuted(rules []int, choices []api.Choice, tag api.Tag) {
	p.ask(len(choices) == len(rules))
	for n, r := range rules {
		p.askRefutedAt(r, choices[n], tag)
	}
}

// askRefutedAt: the choice names a place of the rule's body whose literal has the tag.
func (p *proof) askRefutedAt(r int, c api.Choice, tag api.Tag) {
	body := p.body(r)
	p.ask(c.Rule == none)
	p.ask(within(c.Place, len(body)))
	p.askAhead(body[c.Place], tag)
}

// askBeaten: the choice names one of the literal's team that beats the rule.
func (p *proof) askBeaten(q, r int, c api.Choice) {
	p.ask(p.isOfTeam(q, c.Rule))
	p.ask(contains(p.theory.Beats[c.Rule], r))
	p.askBody(c.Rule, api.PlusPartial)
}
