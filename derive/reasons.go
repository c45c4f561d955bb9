package derive

import (
	"slices"

	"lexprior/api"
)

// reason: a step by which a literal has a tag, without these two. It is asked where the tag's condition holds by what was said, so that one is found.
type reason func(p *proof, q int) api.Step

// reasons: of each tag its own, at Tag - 1.
func reasons() [4]reason {
	return [4]reason{(*proof).plusDelta, (*proof).minusDelta, (*proof).plusPartial, (*proof).minusPartial}
}

// tell: a step for each literal and tag, in an order in which each follows by the conditions from those ahead.
func (p *proof) tell(order []api.Pair) []api.Step {
	find := reasons()
	var l []api.Step
	for _, next := range order {
		s := find[next.B-1](p, next.A)
		s.Lit, s.Tag = next.A, api.Tag(next.B)
		p.say(s)
		l = append(l, s)
	}
	return l
}

func (p *proof) plusDelta(q int) api.Step {
	if p.fact[q] {
		return api.Step{How: api.HowFact, Rule: none}
	}
	return api.Step{How: api.HowRule, Rule: p.firstWhole(p.strictFor[q], api.PlusDelta)}
}

func (p *proof) minusDelta(q int) api.Step {
	choices, _ := p.refuting(p.strictFor[q], api.MinusDelta)
	return api.Step{How: api.HowNone, Rule: none, Choices: choices}
}

func (p *proof) plusPartial(q int) api.Step {
	if p.has(q, api.PlusDelta) {
		return api.Step{How: api.HowStrict, Rule: none}
	}
	var choices []api.Choice
	for _, s := range p.against[q] {
		choices = append(choices, p.answer(q, s))
	}
	return api.Step{How: api.HowRule, Rule: p.firstWhole(p.teamOf[q], api.PlusPartial), Choices: choices}
}

func (p *proof) minusPartial(q int) api.Step {
	if choices, all := p.refuting(p.teamOf[q], api.MinusPartial); all {
		return api.Step{How: api.HowNone, Rule: none, Choices: choices}
	}
	for _, foe := range p.theory.Foes[q] {
		if p.has(foe, api.PlusDelta) {
			return api.Step{How: api.HowStrict, Rule: foe}
		}
	}
	return p.overruled(q)
}

// overruled: -d by a rule for a foe, of which all that could beat it is refuted.
func (p *proof) overruled(q int) api.Step {
	for _, s := range p.against[q] {
		if !p.isWhole(s, api.PlusPartial) {
			continue
		}
		if choices, all := p.refuting(p.beaters(q, s), api.MinusPartial); all {
			return api.Step{How: api.HowBeaten, Rule: s, Choices: choices}
		}
	}
	return api.Step{How: api.HowBeaten, Rule: none}
}

// answer: what a rule of the literal's team says to a rule for a foe: it is refuted, or else beaten.
func (p *proof) answer(q, s int) api.Choice {
	if place := p.refuted(s, api.MinusPartial); place != none {
		return api.Choice{Place: place, Rule: none}
	}
	return api.Choice{Place: none, Rule: p.firstWhole(p.beaters(q, s), api.PlusPartial)}
}

// refuting: of each rule the first place that is refuted; and is there one of all?
func (p *proof) refuting(rules []int, tag api.Tag) ([]api.Choice, bool) {
	var choices []api.Choice
	for _, r := range rules {
		place := p.refuted(r, tag)
		if place == none {
			return nil, false
		}
		choices = append(choices, api.Choice{Place: place, Rule: none})
	}
	return choices, true
}

// refuted: the first place in the rule's body whose literal has that tag, or none.
func (p *proof) refuted(r int, tag api.Tag) int {
	return slices.IndexFunc(p.body(r), func(lit int) bool { return p.has(lit, tag) })
}

// firstWhole: the first of the rules whose whole body has that tag, or none.
func (p *proof) firstWhole(rules []int, tag api.Tag) int {
	for _, r := range rules {
		if p.isWhole(r, tag) {
			return r
		}
	}
	return none
}

func (p *proof) isWhole(r int, tag api.Tag) bool {
	return !slices.ContainsFunc(p.body(r), func(lit int) bool { return !p.has(lit, tag) })
}
