package delta

import (
	"slices"

	"lexprior/api"
)

// cone: what may change when these literals do, rising. It is found ring by ring: what lies just behind the last ring, and in none ahead of it, is the next.
func (e *Engine) cone(lits []int) []int {
	within, ring := map[int]struct{}{}, map[int]struct{}{}
	for _, lit := range lits {
		ring[lit] = struct{}{}
	}
	for len(ring) > 0 {
		for lit := range ring {
			within[lit] = struct{}{}
		}
		ring = e.behind(ring, within)
	}
	return rising(within)
}

// behind: what hangs on the literals of a ring, but for what is within already.
func (e *Engine) behind(ring, within map[int]struct{}) map[int]struct{} {
	next := map[int]struct{}{}
	for lit := range ring {
		for _, list := range [][]int{e.theory.Foes[lit], e.leadsTo[lit]} {
			for _, other := range list {
				if _, there := within[other]; !there {
					next[other] = struct{}{}
				}
			}
		}
	}
	return next
}

func rising(those map[int]struct{}) []int {
	list := make([]int, 0, len(those))
	for n := range those {
		list = append(list, n)
	}
	slices.Sort(list)
	return list
}

// cut is a cone as a theory of its own. Its literals are those of the cone, and behind them one for all literals outside that have the same marks: nothing outside hangs on the cone, so these marks stay.
type cut struct {
	part    api.Theory
	facts   []int
	lits    map[int]int // of each literal of the cone its number in the part
	outside []api.Marks // of each literal behind the cone the marks that it stands for
}

// cutOut: a cone has all foes of its literals, so that no foe and no beaten rule is left out.
func (e *Engine) cutOut(cone []int) *cut {
	c := &cut{lits: places(cone)}
	for place, lit := range cone {
		c.part.Foes = append(c.part.Foes, moved(e.theory.Foes[lit], c.lits))
		if e.fact[lit] {
			c.facts = append(c.facts, place)
		}
	}
	rules := e.rulesOf(c.lits)
	rulePlaces := places(rules)
	for _, r := range rules {
		rule := e.theory.Rules[r]
		c.part.Rules = append(c.part.Rules, api.Rule{Kind: rule.Kind, Head: c.lits[rule.Head], Body: e.bodyIn(c, rule.Body)})
		c.part.Beats = append(c.part.Beats, moved(e.theory.Beats[r], rulePlaces))
	}
	for n, marks := range c.outside {
		c.stand(len(cone)+n, marks)
	}
	c.part.Lits = len(c.part.Foes)
	return c
}

// places: of each number of a list its place.
func places(list []int) map[int]int {
	all := make(map[int]int, len(list))
	for place, n := range list {
		all[n] = place
	}
	return all
}

// moved: a list whose numbers all have places, by these.
func moved(list []int, to map[int]int) []int {
	var others []int
	for _, n := range list {
		others = append(others, to[n])
	}
	return others
}

// rulesOf: the rules for these literals, rising.
func (e *Engine) rulesOf(lits map[int]int) []int {
	var rules []int
	for lit := range lits {
		rules = append(rules, e.rulesFor[lit]...)
	}
	slices.Sort(rules)
	return rules
}

// bodyIn: two literals outside may be one in the part, and its number may be above those behind it.
func (e *Engine) bodyIn(c *cut, body []int) []int {
	var others []int
	for _, lit := range body {
		place, inside := c.lits[lit]
		if !inside {
			place = c.standIn(e.marks[lit])
		}
		others = append(others, place)
	}
	slices.Sort(others)
	return slices.Compact(others)
}

// standIn: the literal of the part that stands for those outside with these marks.
func (c *cut) standIn(marks api.Marks) int {
	n := slices.Index(c.outside, marks)
	if n < 0 {
		n = len(c.outside)
		c.outside = append(c.outside, marks)
	}
	return len(c.lits) + n
}

// The marks that a literal can come to have, but for -D -d, which it has by nothing.
const (
	plusStrictly   = 1<<(api.PlusDelta-1) | 1<<(api.PlusPartial-1)
	plusDefeasibly = 1<<(api.MinusDelta-1) | 1<<(api.PlusPartial-1)
	plusAlone      = 1 << (api.PlusPartial - 1)
	minusAlone     = 1 << (api.MinusDelta - 1)
	none           = 0
)

// stand puts a literal behind the others, with a fact or the fewest rules by which it comes to have these marks. Literals outside have them by no fewer (the first that comes to have +d alone has one rule that keeps it from -D, and by another one +d), so that a part is within all limits.
func (c *cut) stand(lit int, marks api.Marks) {
	c.part.Foes = append(c.part.Foes, nil)
	switch marks {
	case plusStrictly:
		c.facts = append(c.facts, lit)
	case plusDefeasibly:
		c.lead(api.Defeasible, lit)
	case plusAlone:
		c.lead(api.Strict, lit, lit)
		c.lead(api.Defeasible, lit)
	case minusAlone:
		c.lead(api.Defeasible, lit, lit)
	case none:
		c.lead(api.Strict, lit, lit)
	}
}

// lead puts a rule behind the others.
func (c *cut) lead(kind api.Arrow, head int, body ...int) {
	c.part.Rules = append(c.part.Rules, api.Rule{Kind: kind, Head: head, Body: body})
	c.part.Beats = append(c.part.Beats, nil)
}
