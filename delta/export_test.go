package delta

import "lexprior/api"

// Part: of a change of these literals what is reckoned, with its facts: the literals of the cone, and behind them those that stand for others.
func Part(e *Engine, lits []int) (part api.Theory, facts, cone []int) {
	cone = e.cone(lits)
	c := e.cutOut(cone)
	return c.part, c.facts, cone
}
