package delta

import (
	"slices"

	"lexprior/api"
	"lexprior/fast"
)

func (e *Engine) wasMade() bool {
	return e != nil && e.made
}

// lay: an engine over a theory that may be, with memory of its own; without facts, and without marks yet.
func lay(t api.Theory) *Engine {
	e := &Engine{
		made:     true,
		theory:   apart(t),
		rulesFor: make([][]int, t.Lits),
		leadsTo:  make([][]int, t.Lits),
		fact:     make([]bool, t.Lits),
	}
	for r, rule := range t.Rules {
		e.rulesFor[rule.Head] = append(e.rulesFor[rule.Head], r)
		for _, lit := range rule.Body {
			e.leadsTo[lit] = append(e.leadsTo[lit], rule.Head)
		}
	}
	return e
}

// apart: the same theory with lists of its own.
func apart(t api.Theory) api.Theory {
	other := api.Theory{Lits: t.Lits, Foes: listsApart(t.Foes), Beats: listsApart(t.Beats)}
	for _, rule := range t.Rules {
		rule.Body = slices.Clone(rule.Body)
		other.Rules = append(other.Rules, rule)
	}
	return other
}

func listsApart(lists [][]int) [][]int {
	var others [][]int
	for _, list := range lists {
		others = append(others, slices.Clone(list))
	}
	return others
}

// turn makes a literal a fact, or none, which it must not be yet.
func (e *Engine) turn(q int, fact bool) ([]api.Change, api.Errno) {
	if !e.wasMade() {
		return nil, api.ErrMade
	}
	if q < 0 || q >= e.theory.Lits {
		return nil, api.ErrArg
	}
	if e.fact[q] == fact {
		return nil, api.ErrFact
	}
	return e.change([]int{q}), api.OK
}

// unlike: the literals that are facts now and not among these, or the other way round; rising.
func (e *Engine) unlike(facts []int) []int {
	wanted := make([]bool, e.theory.Lits)
	for _, fact := range facts {
		wanted[fact] = true
	}
	var list []int
	for lit, fact := range e.fact {
		if fact != wanted[lit] {
			list = append(list, lit)
		}
	}
	return list
}

// change: these literals become facts, or cease to be; their cone is reckoned anew, all else stays.
func (e *Engine) change(turned []int) []api.Change {
	for _, lit := range turned {
		e.fact[lit] = !e.fact[lit]
	}
	e.touched = e.cone(turned)
	c := e.cutOut(e.touched)
	marks, _ := fast.Run(c.part, c.facts) // the part of a theory that may be is one, too: see stand
	var changes []api.Change
	for place, lit := range e.touched {
		if was, now := e.marks[lit], marks[place]; was != now {
			changes = append(changes, api.Change{Lit: lit, Was: was, Now: now})
			e.marks[lit] = now
		}
	}
	return changes
}
