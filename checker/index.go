package checker

import (
	"slices"

	"lexprior/api"
)

// none is what a step or a choice says where it names no rule or no place.
const none = -1

// index is what is looked up of a theory that may be. All its lists rise.
type index struct {
	theory    api.Theory
	strictFor [][]int            // of each literal the strict rules for it
	teamOf    [][]int            // the strict and defeasible ones
	against   [][]int            // all rules for its foes
	beating   map[api.Pair][]int // of a literal and a rule for a foe of it, those of the literal's team that beat the rule
}

func newIndex(t api.Theory) *index {
	x := &index{
		theory:    t,
		strictFor: make([][]int, t.Lits),
		teamOf:    make([][]int, t.Lits),
		against:   make([][]int, t.Lits),
		beating:   map[api.Pair][]int{},
	}
	for r, rule := range t.Rules {
		for _, foe := range t.Foes[rule.Head] {
			x.against[foe] = append(x.against[foe], r)
		}
		if x.isStrictFor(rule.Head, r) {
			x.strictFor[rule.Head] = append(x.strictFor[rule.Head], r)
		}
		if x.isOfTeam(rule.Head, r) {
			x.join(r)
		}
	}
	return x
}

// join: the rule is one of its head's team.
func (x *index) join(r int) {
	head := x.theory.Rules[r].Head
	x.teamOf[head] = append(x.teamOf[head], r)
	for _, beaten := range x.theory.Beats[r] {
		conflict := api.Pair{A: head, B: beaten}
		x.beating[conflict] = append(x.beating[conflict], r)
	}
}

// beaters: those of the literal's team that beat a rule for a foe of it.
func (x *index) beaters(q, r int) []int {
	return x.beating[api.Pair{A: q, B: r}]
}

// isFor: is there such a rule, and is the literal its head?
func (x *index) isFor(q, r int) bool {
	return within(r, len(x.theory.Rules)) && x.theory.Rules[r].Head == q
}

func (x *index) isStrictFor(q, r int) bool {
	return x.isFor(q, r) && x.theory.Rules[r].Kind == api.Strict
}

// isOfTeam: is it a rule that may show the literal? A defeater may only stand against others.
func (x *index) isOfTeam(q, r int) bool {
	return x.isFor(q, r) && x.theory.Rules[r].Kind != api.Defeater
}

func (x *index) isAgainst(q, r int) bool {
	return within(r, len(x.theory.Rules)) && x.areFoes(q, x.theory.Rules[r].Head)
}

// areFoes: of a literal, and what may be none.
func (x *index) areFoes(q, foe int) bool {
	return contains(x.theory.Foes[q], foe)
}

func (x *index) body(r int) []int {
	return x.theory.Rules[r].Body
}

func within(n, below int) bool {
	return n >= 0 && n < below
}

// contains: of a list that rises.
func contains(list []int, n int) bool {
	_, there := slices.BinarySearch(list, n)
	return there
}
