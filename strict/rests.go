package strict

import (
	"slices"

	"lexprior/api"
)

// strictFor: of each literal the strict rules for it, rising.
func strictFor(t api.Theory) [][]int {
	rules := make([][]int, t.Lits)
	for r, rule := range t.Rules {
		if rule.Kind == api.Strict {
			rules[rule.Head] = append(rules[rule.Head], r)
		}
	}
	return rules
}

// firstOf: the first of the numbers that is so. Callers know that there is one.
func firstOf(numbers []int, so func(n int) bool) int {
	return numbers[slices.IndexFunc(numbers, so)]
}

// loopFrom: from a literal of which nothing is said to the first that comes a second time. Each one has a next one: of its rules one has no literal with -D (else it had -D itself), and there some literal has no +D (else it had +D).
func loopFrom(t api.Theory, said conclusions, lit int) []int {
	rules := strictFor(t)
	refuted := func(lit int) bool { return said.signs[lit] == minus }
	standing := func(r int) bool { return !slices.ContainsFunc(t.Rules[r].Body, refuted) }
	missing := func(lit int) bool { return said.signs[lit] != plus }
	seen := make([]bool, t.Lits)
	loop := []int{lit}
	for !seen[lit] {
		seen[lit] = true
		lit = firstOf(t.Rules[firstOf(rules[lit], standing)].Body, missing)
		loop = append(loop, lit)
	}
	return loop
}

// clashes: lower literals and their foes rise, and so do the pairs.
func clashes(t api.Theory, said conclusions) []api.Pair {
	var pairs []api.Pair
	for lit, foes := range t.Foes {
		for _, foe := range foes {
			if lit < foe && said.signs[lit] == plus && said.signs[foe] == plus {
				pairs = append(pairs, api.Pair{A: lit, B: foe})
			}
		}
	}
	return pairs
}

// factsBelow: the facts that the first proof of a literal with +D meets.
func factsBelow(t api.Theory, facts []int, said conclusions, lit int) []int {
	rules := strictFor(t)
	var met []int
	put, waiting := worklist(t.Lits)
	put(lit)
	for lit := range waiting {
		if _, is := slices.BinarySearch(facts, lit); is {
			met = append(met, lit)
			continue
		}
		first := firstOf(rules[lit], func(r int) bool { return said.ahead(t.Rules[r].Body, lit) })
		for _, premise := range t.Rules[first].Body {
			put(premise)
		}
	}
	slices.Sort(met)
	return met
}

// ahead: has each literal of the body +D, in a round ahead of the head's?
func (said conclusions) ahead(body []int, head int) bool {
	for _, lit := range body {
		if said.signs[lit] != plus || said.rounds[lit] >= said.rounds[head] {
			return false
		}
	}
	return true
}
