package strict

import "lexprior/api"

// sign is what is said of a literal.
type sign int

const (
	unsaid sign = iota
	plus        // +D
	minus       // -D
)

// conclusions: of each literal what is said of it, and in which round (0: nothing is).
type conclusions struct {
	signs  []sign
	rounds []int
}

// counters are by what rules and heads wait. Rules that are not strict have none, and never come to be used.
type counters struct {
	missing []int   // of each rule how many literals of its body have no +D yet
	refuted []bool  // of each rule whether a literal of its body has -D
	open    []int   // of each literal how many strict rules for it are not refuted
	users   [][]int // of each literal the strict rules in whose bodies it is
}

func newCounters(t api.Theory) *counters {
	c := &counters{
		missing: make([]int, len(t.Rules)),
		refuted: make([]bool, len(t.Rules)),
		open:    make([]int, t.Lits),
		users:   make([][]int, t.Lits),
	}
	for r, rule := range t.Rules {
		if rule.Kind != api.Strict {
			continue
		}
		c.missing[r] = len(rule.Body)
		c.open[rule.Head]++
		for _, lit := range rule.Body {
			c.users[lit] = append(c.users[lit], r)
		}
	}
	return c
}

// follows: a literal of the rule's body has that sign; does the head have it thereby? (Of +D only +D follows, of -D only -D.)
func (c *counters) follows(is sign, r, head int) bool {
	if is == plus {
		return c.met(r)
	}
	return c.refute(r, head)
}

// met: was it the last of the body that was missing?
func (c *counters) met(r int) bool {
	c.missing[r]--
	return c.missing[r] == 0
}

// refute: was it the last open rule for its head?
func (c *counters) refute(r, head int) bool {
	if c.refuted[r] {
		return false
	}
	c.refuted[r] = true
	c.open[head]--
	return c.open[head] == 0
}

// conclude: all that can be said. The worklist hands out what came first, so that all of one round goes ahead of what follows from it, and each is said in its first round.
func conclude(t api.Theory, facts []int) conclusions {
	said := conclusions{signs: make([]sign, t.Lits), rounds: make([]int, t.Lits)}
	put, waiting := worklist(t.Lits)
	say := func(lit int, is sign, round int) {
		if put(lit) {
			said.signs[lit], said.rounds[lit] = is, round
		}
	}
	c := newCounters(t)
	begin(t, facts, c, say)
	for lit := range waiting {
		is, next := said.signs[lit], said.rounds[lit]+1
		for _, r := range c.users[lit] {
			if head := t.Rules[r].Head; c.follows(is, r, head) {
				say(head, is, next)
			}
		}
	}
	return said
}

// begin says what the first round does. Facts go ahead of all, so that none of them is said to have -D for want of rules.
func begin(t api.Theory, facts []int, c *counters, say func(lit int, is sign, round int)) {
	for _, fact := range facts {
		say(fact, plus, 1)
	}
	for _, rule := range t.Rules {
		if rule.Kind == api.Strict && len(rule.Body) == 0 {
			say(rule.Head, plus, 1)
		}
	}
	for lit, open := range c.open {
		if open == 0 {
			say(lit, minus, 1)
		}
	}
}
