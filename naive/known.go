package naive

import (
	"slices"

	"lexprior/api"
)

// known is what conditions are asked by: a theory that may be, its facts, and a mark list.
type known struct {
	theory    api.Theory
	fact      []bool  // of each literal whether it is one
	strictFor [][]int // of each literal the strict rules for it
	teamOf    [][]int // the strict and defeasible ones
	rulesFor  [][]int // all
	marks     []api.Marks
}

func newKnown(t api.Theory, facts []int, marks []api.Marks) *known {
	k := &known{
		theory:    t,
		fact:      make([]bool, t.Lits),
		strictFor: make([][]int, t.Lits),
		teamOf:    make([][]int, t.Lits),
		rulesFor:  make([][]int, t.Lits),
		marks:     marks,
	}
	for _, fact := range facts {
		k.fact[fact] = true
	}
	for r, rule := range t.Rules {
		if rule.Kind == api.Strict {
			k.strictFor[rule.Head] = append(k.strictFor[rule.Head], r)
		}
		if rule.Kind != api.Defeater {
			k.teamOf[rule.Head] = append(k.teamOf[rule.Head], r)
		}
		k.rulesFor[rule.Head] = append(k.rulesFor[rule.Head], r)
	}
	return k
}

// bit: by which a mark list says a tag.
func bit(tag api.Tag) api.Marks {
	return 1 << (tag - 1)
}

func (k *known) has(lit int, tag api.Tag) bool {
	return k.marks[lit]&bit(tag) != 0
}

// whole: has each literal of the rule's body that tag?
func (k *known) whole(r int, tag api.Tag) bool {
	return every(k.theory.Rules[r].Body, func(lit int) bool { return k.has(lit, tag) })
}

// partly: has one of them?
func (k *known) partly(r int, tag api.Tag) bool {
	return some(k.theory.Rules[r].Body, func(lit int) bool { return k.has(lit, tag) })
}

// beats: is the one rule superior to the other? (The lists of a theory that may be rise.)
func (k *known) beats(one, other int) bool {
	_, is := slices.BinarySearch(k.theory.Beats[one], other)
	return is
}

// round: a new list, of the marks and of all that holds by them; what a literal comes to have meanwhile is not asked before the next one.
func (k *known) round() []api.Marks {
	all := conditions()
	next := slices.Clone(k.marks)
	for q := range next {
		for tag := api.PlusDelta; tag <= api.MinusPartial; tag++ {
			if !k.has(q, tag) && all[tag-1](k, q) {
				next[q] |= bit(tag)
			}
		}
	}
	return next
}

// solve: round by round from no mark at all, and how many rounds brought something.
func solve(t api.Theory, facts []int) ([]api.Marks, int) {
	k := newKnown(t, facts, make([]api.Marks, t.Lits))
	for rounds := 0; ; rounds++ {
		next := k.round()
		if slices.Equal(next, k.marks) {
			return next, rounds
		}
		k.marks = next
	}
}
