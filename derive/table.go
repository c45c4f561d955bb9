package derive

import "lexprior/api"

// need is told each literal and tag that must be ahead of a step; there are such, and one may come more than once.
type need func(lit int, tag api.Tag)

// row: is a step, whose Lit is a literal, of the row's form? Of one that is not, what need was told says nothing.
type row func(x *index, s api.Step, ahead need) bool

// rows: the table, by Tag - 1 and How - 1; nil where it has no row.
func rows() [4][5]row {
	return [4][5]row{
		api.PlusDelta - 1:    {api.HowFact - 1: (*index).byFact, api.HowRule - 1: (*index).byStrictRule},
		api.MinusDelta - 1:   {api.HowNone - 1: (*index).byNoStrictRule},
		api.PlusPartial - 1:  {api.HowStrict - 1: (*index).byPlusDelta, api.HowRule - 1: (*index).byRule},
		api.MinusPartial - 1: {api.HowNone - 1: (*index).byNoRule, api.HowStrict - 1: (*index).byStrictFoe, api.HowBeaten - 1: (*index).byFoesRule},
	}
}

// hasForm: is a step of the form of its row? What is ahead, and what are facts, is not asked.
func (x *index) hasForm(s api.Step, ahead need) bool {
	table := rows()
	tag, how := int(s.Tag)-1, int(s.How)-1
	if !within(s.Lit, x.theory.Lits) || !within(tag, len(table)) || !within(how, len(table[0])) {
		return false
	}
	fits := table[tag][how]
	return fits != nil && fits(x, s, ahead)
}

// byFact: +D. (Whether the literal is a fact is not the form's.)
func (x *index) byFact(s api.Step, _ need) bool {
	return isBare(s)
}

// byStrictRule: +D.
func (x *index) byStrictRule(s api.Step, ahead need) bool {
	if !contains(x.strictFor[s.Lit], s.Rule) || len(s.Choices) > 0 {
		return false
	}
	x.needBody(s.Rule, api.PlusDelta, ahead)
	return true
}

// byNoStrictRule: -D. (Nor is whether the literal is no fact.)
func (x *index) byNoStrictRule(s api.Step, ahead need) bool {
	return s.Rule == none && x.allRefuted(x.strictFor[s.Lit], s.Choices, api.MinusDelta, ahead)
}

// byPlusDelta: +d.
func (x *index) byPlusDelta(s api.Step, ahead need) bool {
	ahead(s.Lit, api.PlusDelta)
	return isBare(s)
}

// byRule: +d.
func (x *index) byRule(s api.Step, ahead need) bool {
	if !contains(x.teamOf[s.Lit], s.Rule) {
		return false
	}
	x.needBody(s.Rule, api.PlusPartial, ahead)
	for _, foe := range x.theory.Foes[s.Lit] {
		ahead(foe, api.MinusDelta)
	}
	return eachChosen(x.against[s.Lit], s.Choices, func(r int, c api.Choice) bool {
		return x.isRefuted(r, c, api.MinusPartial, ahead) || x.isBeaten(s.Lit, r, c, ahead)
	})
}

// byNoRule: -d.
func (x *index) byNoRule(s api.Step, ahead need) bool {
	ahead(s.Lit, api.MinusDelta)
	return s.Rule == none && x.allRefuted(x.teamOf[s.Lit], s.Choices, api.MinusPartial, ahead)
}

// byStrictFoe: -d. Rule is a literal's number here.
func (x *index) byStrictFoe(s api.Step, ahead need) bool {
	if !contains(x.theory.Foes[s.Lit], s.Rule) || len(s.Choices) > 0 {
		return false
	}
	ahead(s.Lit, api.MinusDelta)
	ahead(s.Rule, api.PlusDelta)
	return true
}

// byFoesRule: -d.
func (x *index) byFoesRule(s api.Step, ahead need) bool {
	if !contains(x.against[s.Lit], s.Rule) {
		return false
	}
	ahead(s.Lit, api.MinusDelta)
	x.needBody(s.Rule, api.PlusPartial, ahead)
	return x.allRefuted(x.beaters(s.Lit, s.Rule), s.Choices, api.MinusPartial, ahead)
}

// isBare: does the step name neither a rule nor choices?
func isBare(s api.Step) bool {
	return s.Rule == none && len(s.Choices) == 0
}

func (x *index) needBody(r int, tag api.Tag, ahead need) {
	for _, lit := range x.body(r) {
		ahead(lit, tag)
	}
}

// eachChosen: is there one choice for each of the rules, in their order, that is so?
func eachChosen(rules []int, choices []api.Choice, so func(r int, c api.Choice) bool) bool {
	if len(choices) != len(rules) {
		return false
	}
	for n, r := range rules {
		if !so(r, choices[n]) {
			return false
		}
	}
	return true
}

// allRefuted: does each choice name a place in the body of its rule?
func (x *index) allRefuted(rules []int, choices []api.Choice, tag api.Tag, ahead need) bool {
	return eachChosen(rules, choices, func(r int, c api.Choice) bool { return x.isRefuted(r, c, tag, ahead) })
}

func (x *index) isRefuted(r int, c api.Choice, tag api.Tag, ahead need) bool {
	if c.Rule != none || !within(c.Place, len(x.body(r))) {
		return false
	}
	ahead(x.body(r)[c.Place], tag)
	return true
}

// isBeaten: does the choice name one of the literal's team that beats the rule?
func (x *index) isBeaten(q, r int, c api.Choice, ahead need) bool {
	if c.Place != none || !contains(x.beaters(q, r), c.Rule) {
		return false
	}
	x.needBody(c.Rule, api.PlusPartial, ahead)
	return true
}
