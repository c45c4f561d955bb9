package derive

import (
	"cmp"
	"slices"

	"lexprior/api"
)

// none is what a step or a choice says where it names no rule or no place.
const none = -1

// index is what is looked up of a theory that may be. All its lists rise.
type index struct {
	theory    api.Theory
	strictFor [][]int            // of each literal the strict rules for it
	teamOf    [][]int            // the strict and defeasible ones
	against   [][]int            // all rules for its foes
	beating   map[api.Pair][]int // of a rule and a foe of its head, those of the foe's team that beat the rule
}

func newIndex(t api.Theory) *index {
	x := &index{
		theory:    t,
		strictFor: make([][]int, t.Lits),
		teamOf:    make([][]int, t.Lits),
		against:   make([][]int, t.Lits),
		beating:   map[api.Pair][]int{},
	}
	for r, rule := range t.Rules {
		for _, foe := range t.Foes[rule.Head] {
			x.against[foe] = append(x.against[foe], r)
		}
		if rule.Kind == api.Strict {
			x.strictFor[rule.Head] = append(x.strictFor[rule.Head], r)
		}
		if rule.Kind != api.Defeater {
			x.join(r)
		}
	}
	return x
}

// join: the rule is one of its head's team.
func (x *index) join(r int) {
	head := x.theory.Rules[r].Head
	x.teamOf[head] = append(x.teamOf[head], r)
	for _, s := range x.theory.Beats[r] {
		conflict := api.Pair{A: s, B: head}
		x.beating[conflict] = append(x.beating[conflict], r)
	}
}

// beaters: those of the literal's team that beat a rule for a foe of it.
func (x *index) beaters(q, s int) []int {
	return x.beating[api.Pair{A: s, B: q}]
}

func (x *index) body(r int) []int {
	return x.theory.Rules[r].Body
}

func within(n, below int) bool {
	return n >= 0 && n < below
}

// contains: of a list that rises.
func contains(list []int, n int) bool {
	_, there := slices.BinarySearch(list, n)
	return there
}

func isTag(tag api.Tag) bool {
	return tag >= api.PlusDelta && tag <= api.MinusPartial
}

// says: what a step with this literal and tag does.
func says(lit int, tag api.Tag) api.Pair {
	return api.Pair{A: lit, B: int(tag)}
}

func comparePairs(a, b api.Pair) int {
	return cmp.Or(cmp.Compare(a.A, b.A), cmp.Compare(a.B, b.B))
}
