package theory

import (
	"slices"

	"lexprior/api"
)

func within(n, below int) bool {
	return n >= 0 && n < below
}

// rising: are these numbers from 0 on, below that one, each above the one ahead?
func rising(list []int, below int) bool {
	last := -1
	for _, n := range list {
		if n <= last || n >= below {
			return false
		}
		last = n
	}
	return true
}

func foeFault(t api.Theory) (api.Errno, int) {
	if len(t.Foes) != t.Lits {
		return api.ErrFoe, 0
	}
	for lit, foes := range t.Foes {
		if len(foes) > api.MaxFoes || !rising(foes, t.Lits) || slices.Contains(foes, lit) || !returned(t, lit) {
			return api.ErrFoe, lit
		}
	}
	return api.OK, 0
}

// returned: is the literal a foe of each of its foes? (Their lists may be out of order: those behind it were not looked at yet.)
func returned(t api.Theory, lit int) bool {
	for _, foe := range t.Foes[lit] {
		if !slices.Contains(t.Foes[foe], lit) {
			return false
		}
	}
	return true
}

func ruleFault(t api.Theory) (api.Errno, int) {
	if len(t.Rules) > api.MaxRules {
		return api.ErrGround, 0
	}
	for r, rule := range t.Rules {
		if !mayBe(rule, t.Lits) {
			return api.ErrRule, r
		}
	}
	return api.OK, 0
}

func mayBe(rule api.Rule, lits int) bool {
	switch rule.Kind {
	case api.Strict, api.Defeasible, api.Defeater:
		return within(rule.Head, lits) && len(rule.Body) <= api.MaxBody && rising(rule.Body, lits)
	}
	return false
}

func pairFault(t api.Theory) (api.Errno, int) {
	if pairsOf(t) > api.MaxPairs {
		return api.ErrPairs, 0
	}
	return api.OK, 0
}

// pairsOf: counted by heads, since there may be far more pairs of rules than rules and foes.
func pairsOf(t api.Theory) int {
	rulesFor := make([]int, t.Lits)
	for _, rule := range t.Rules {
		rulesFor[rule.Head]++
	}
	pairs := 0
	for lit, many := range rulesFor {
		for _, foe := range t.Foes[lit] {
			pairs += many * rulesFor[foe]
		}
	}
	return pairs
}

func beatFault(t api.Theory) (api.Errno, int) {
	if len(t.Beats) != len(t.Rules) {
		return api.ErrBeat, 0
	}
	for r, beaten := range t.Beats {
		if !rising(beaten, len(t.Rules)) || !allFoes(t, r) {
			return api.ErrBeat, r
		}
	}
	return api.OK, 0
}

// allFoes: are the heads of all rules that this one beats foes of its own?
func allFoes(t api.Theory, r int) bool {
	foes := t.Foes[t.Rules[r].Head]
	for _, beaten := range t.Beats[r] {
		if _, there := slices.BinarySearch(foes, t.Rules[beaten].Head); !there {
			return false
		}
	}
	return true
}

// circleFault: a rule that beats itself is refused ahead of this, so that a circle is a knot of several rules.
func circleFault(t api.Theory) (api.Errno, int) {
	lowest := len(t.Rules)
	for _, knot := range knotsOf(t.Beats) {
		if len(knot) > 1 {
			lowest = min(lowest, slices.Min(knot))
		}
	}
	if lowest < len(t.Rules) {
		return api.ErrPriorityCycle, lowest
	}
	return api.OK, 0
}
