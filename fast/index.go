package fast

import (
	"slices"

	"lexprior/api"
)

// index is what is looked up of a theory and its facts. A run changes nothing of it.
type index struct {
	theory   api.Theory
	rulesFor [][]int // of each literal the rules for it
	teamOf   [][]int // the strict and defeasible ones
	rivals   [][]int // of each literal its foes that have such rules, rising
	firm     []bool  // of each literal whether it is a fact or has a strict rule: without that its -D is there at the beginning
}

func newIndex(t api.Theory, facts []int) index {
	x := index{
		theory:   t,
		rulesFor: make([][]int, t.Lits),
		teamOf:   make([][]int, t.Lits),
		rivals:   make([][]int, t.Lits),
		firm:     make([]bool, t.Lits),
	}
	for _, fact := range facts {
		x.firm[fact] = true
	}
	for r, rule := range t.Rules {
		x.rulesFor[rule.Head] = append(x.rulesFor[rule.Head], r)
		if isTeam(rule) {
			x.teamOf[rule.Head] = append(x.teamOf[rule.Head], r)
		}
		if isStrict(rule) {
			x.firm[rule.Head] = true
		}
	}
	for lit, foes := range t.Foes {
		for _, foe := range foes {
			if len(x.teamOf[foe]) > 0 {
				x.rivals[lit] = append(x.rivals[lit], foe)
			}
		}
	}
	return x
}

func isStrict(rule api.Rule) bool {
	return rule.Kind == api.Strict
}

func isAny(api.Rule) bool {
	return true
}

// isTeam: may its head follow by it? (By a defeater nothing does.)
func isTeam(rule api.Rule) bool {
	return rule.Kind != api.Defeater
}

// waits are the counters by which rules wait for what their bodies come to have: all of + (+D or +d), or one - (-D or -d).
type waits struct {
	users   [][]int // of each literal the rules that have it in their bodies
	missing []int   // of each rule how many literals of its body have no + yet
	refuted []bool  // of each rule whether one of them has -
	open    []int   // of each literal how many rules, by which it could follow, are not refuted; 0 of one of which they can't all be
}

// newWaits: of the rules that wait, and of those by which heads follow.
func newWaits(t api.Theory, waiting, leading func(rule api.Rule) bool) waits {
	w := waits{
		users:   make([][]int, t.Lits),
		missing: make([]int, len(t.Rules)),
		refuted: make([]bool, len(t.Rules)),
		open:    make([]int, t.Lits),
	}
	for r, rule := range t.Rules {
		if !waiting(rule) {
			continue
		}
		w.missing[r] = len(rule.Body)
		for _, lit := range rule.Body {
			w.users[lit] = append(w.users[lit], r)
		}
		if leading(rule) {
			w.open[rule.Head]++
		}
	}
	for _, rule := range t.Rules {
		if leading(rule) && len(rule.Body) == 0 {
			w.open[rule.Head] = 0
		}
	}
	return w
}

// clash is how a rule stands against one rival of its head.
type clash struct {
	defenders int  // how many rules for the rival beat it and are not refuted
	beaten    bool // whether one of them has its whole body +d
}

// newClashes: of each rule one for each rival of its head, in their order.
func newClashes(x index) [][]clash {
	all := make([][]clash, len(x.theory.Rules))
	for s, rule := range x.theory.Rules {
		all[s] = make([]clash, len(x.rivals[rule.Head]))
	}
	for r, rule := range x.theory.Rules {
		if !isTeam(rule) {
			continue
		}
		for _, s := range x.theory.Beats[r] {
			all[s][x.placeOf(rule.Head, s)].defenders++
		}
	}
	return all
}

// placeOf: which of the rivals of a rule's head that one is. Callers know that it is one.
func (x *index) placeOf(rival, s int) int {
	place, _ := slices.BinarySearch(x.rivals[x.theory.Rules[s].Head], rival)
	return place
}

// newObstacles: of each literal with a team, what is between it and +d, once a rule of the team is used: foes that may have +D, and their rules.
func newObstacles(x index) []int {
	obstacles := make([]int, x.theory.Lits)
	for lit, rivals := range x.rivals {
		for _, rival := range rivals {
			obstacles[rival] += len(x.rulesFor[lit])
			if x.firm[lit] {
				obstacles[rival]++
			}
		}
	}
	return obstacles
}
