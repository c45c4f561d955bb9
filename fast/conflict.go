package fast

import "lexprior/api"

// used: has the rule its whole body +d?
func (e *engine) used(r int) bool {
	return e.defeasibly.missing[r] == 0
}

// dropped: has a literal of its body -d?
func (e *engine) dropped(r int) bool {
	return e.defeasibly.refuted[r]
}

// use: the rule has come to be used. It overrules rivals of which nothing is left to beat it; and its head follows by it, if nothing else is in the way.
func (e *engine) use(r int) {
	head := e.theory.Rules[r].Head
	for place, rival := range e.rivals[head] {
		if e.clashes[r][place].defenders == 0 {
			e.lose(rival)
		}
	}
	if isTeam(e.theory.Rules[r]) {
		e.defend(r)
		if e.obstacles[head] == 0 {
			e.tell(head, api.PlusPartial)
		}
	}
}

// defend: what a used rule beats is not in its head's way any more.
func (e *engine) defend(r int) {
	head := e.theory.Rules[r].Head
	for _, s := range e.theory.Beats[r] {
		against := &e.clashes[s][e.placeOf(head, s)]
		if against.beaten {
			continue
		}
		set(e, &against.beaten, true)
		if !e.dropped(s) {
			e.clear(head)
		}
	}
}

// drop: the rule has come to be refuted. It is in no rival's way any more; and its head has one fewer to follow by, and to beat others.
func (e *engine) drop(r int) {
	head := e.theory.Rules[r].Head
	for place, rival := range e.rivals[head] {
		if !e.clashes[r][place].beaten {
			e.clear(rival)
			e.prove(rival)
		}
	}
	if isTeam(e.theory.Rules[r]) {
		e.withdraw(r)
		if e.closed(&e.defeasibly, head) {
			e.lose(head)
		}
	}
}

// withdraw: what a dropped rule beats has one fewer to fear.
func (e *engine) withdraw(r int) {
	head := e.theory.Rules[r].Head
	for _, s := range e.theory.Beats[r] {
		against := &e.clashes[s][e.placeOf(head, s)]
		set(e, &against.defenders, against.defenders-1)
		if against.defenders == 0 && e.used(s) {
			e.lose(head)
		}
	}
}

// clear: one obstacle has gone.
func (e *engine) clear(lit int) {
	set(e, &e.obstacles[lit], e.obstacles[lit]-1)
}

// isOverruled: is a rule against it used, of which nothing is left to beat it? Asked of a literal with a team, which is a rival of all its foes.
func (e *engine) isOverruled(lit int) bool {
	for _, foe := range e.theory.Foes[lit] {
		for _, s := range e.rulesFor[foe] {
			if e.used(s) && e.clashes[s][e.placeOf(lit, s)].defenders == 0 {
				return true
			}
		}
	}
	return false
}
