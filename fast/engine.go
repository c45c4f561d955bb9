package fast

import (
	"slices"

	"lexprior/api"
)

// engine is one run. What is laid at the beginning it changes by set alone; and of each entry how often it does so hangs on what is told, not on what is told first.
type engine struct {
	index
	strictly   waits // strict rules wait for +D and -D
	defeasibly waits // all rules wait for +d and -d
	clashes    [][]clash
	obstacles  []int
	marks      []api.Marks
	told       []api.Pair // the worklist, and ahead of it what was taken out
	taken      int
	updates    int
}

func run(t api.Theory, facts []int) *engine {
	e := lay(t, facts)
	e.work()
	return e
}

// lay makes an engine with all that one look at the theory and the facts shows; that counts nothing.
func lay(t api.Theory, facts []int) *engine {
	x := newIndex(t, facts)
	e := &engine{
		index:      x,
		strictly:   newWaits(t, isStrict, isStrict),
		defeasibly: newWaits(t, isAny, isTeam),
		clashes:    newClashes(x),
		obstacles:  newObstacles(x),
		marks:      make([]api.Marks, t.Lits),
	}
	for _, fact := range facts {
		e.strictly.open[fact] = 0
	}
	for r, rule := range t.Rules {
		if isTeam(rule) && len(rule.Body) == 0 {
			e.defend(r)
		}
	}
	e.begin()
	e.updates = 0
	return e
}

// begin tells what follows of nothing else. All of +D and -D goes ahead of what follows by it.
func (e *engine) begin() {
	for lit, firm := range e.firm {
		switch {
		case !firm:
			e.tell(lit, api.MinusDelta)
		case e.strictly.open[lit] == 0:
			e.tell(lit, api.PlusDelta)
		}
	}
	for lit := range e.marks {
		if e.has(lit, api.PlusDelta) {
			e.tell(lit, api.PlusPartial)
		}
		e.prove(lit)
		e.disprove(lit)
	}
}

// work: each tag that is told does its own, once.
func (e *engine) work() {
	does := [4]func(lit int){e.plusStrict, e.minusStrict, e.plusDefeasible, e.minusDefeasible}
	for next := range e.waiting {
		does[next.B-1](next.A)
	}
}

// set changes one entry: each change of a run comes by here, and is counted.
func set[T any](e *engine, entry *T, value T) {
	*entry = value
	e.updates++
}

func (e *engine) has(lit int, tag api.Tag) bool {
	return e.marks[lit]&bit(tag) != 0
}

// bit: by which marks say a tag.
func bit(tag api.Tag) api.Marks {
	return 1 << (tag - 1)
}

// tell: a second time nothing comes of it.
func (e *engine) tell(lit int, tag api.Tag) {
	if e.has(lit, tag) {
		return
	}
	set(e, &e.marks[lit], e.marks[lit]|bit(tag))
	set(e, &e.told, append(e.told, api.Pair{A: lit, B: int(tag)}))
}

// waiting hands out the worklist, first come, first served; what comes meanwhile, too.
func (e *engine) waiting(yield func(next api.Pair) bool) {
	for e.taken < len(e.told) {
		next := e.told[e.taken]
		set(e, &e.taken, e.taken+1)
		if !yield(next) {
			return
		}
	}
}

// plusStrict is what +D does.
func (e *engine) plusStrict(lit int) {
	e.tell(lit, api.PlusPartial)
	for _, r := range e.strictly.users[lit] {
		if e.met(&e.strictly, r) {
			e.tell(e.theory.Rules[r].Head, api.PlusDelta)
		}
	}
	for _, foe := range e.theory.Foes[lit] {
		e.lose(foe)
	}
}

// minusStrict is what -D does.
func (e *engine) minusStrict(lit int) {
	for _, r := range e.strictly.users[lit] {
		head := e.theory.Rules[r].Head
		if e.refute(&e.strictly, r) && e.closed(&e.strictly, head) {
			e.tell(head, api.MinusDelta)
		}
	}
	if e.firm[lit] {
		for _, rival := range e.rivals[lit] {
			e.clear(rival)
			e.prove(rival)
		}
	}
	e.disprove(lit)
}

// plusDefeasible is what +d does.
func (e *engine) plusDefeasible(lit int) {
	for _, r := range e.defeasibly.users[lit] {
		if e.met(&e.defeasibly, r) {
			e.use(r)
		}
	}
}

// minusDefeasible is what -d does.
func (e *engine) minusDefeasible(lit int) {
	for _, r := range e.defeasibly.users[lit] {
		if e.refute(&e.defeasibly, r) {
			e.drop(r)
		}
	}
}

// met: a literal of the rule's body has its plus; was it the last that was missing?
func (e *engine) met(w *waits, r int) bool {
	set(e, &w.missing[r], w.missing[r]-1)
	return w.missing[r] == 0
}

// refute: a literal of the rule's body has its minus; is it the first?
func (e *engine) refute(w *waits, r int) bool {
	if w.refuted[r] {
		return false
	}
	set(e, &w.refuted[r], true)
	return true
}

// closed: a rule for the head is refuted; was it the last? That one is not counted down: nothing asks again, and the bound of all work leaves no room for it.
func (e *engine) closed(w *waits, head int) bool {
	if w.open[head] > 1 {
		set(e, &w.open[head], w.open[head]-1)
		return false
	}
	return w.open[head] == 1
}

// prove: is nothing between it and +d? The team is looked through at the beginning and when the last obstacle has gone, not else.
func (e *engine) prove(lit int) {
	if e.obstacles[lit] == 0 && slices.ContainsFunc(e.teamOf[lit], e.used) {
		e.tell(lit, api.PlusPartial)
	}
}

// lose: there is a reason for -d. Without -D it must wait, and disprove will find it.
func (e *engine) lose(lit int) {
	if e.has(lit, api.MinusDelta) {
		e.tell(lit, api.MinusPartial)
	}
}

// disprove looks for reasons that came ahead of -D.
func (e *engine) disprove(lit int) {
	if e.isForsaken(lit) || e.isRefuted(lit) || e.isOverruled(lit) {
		e.lose(lit)
	}
}

// isForsaken: is every rule of the team refuted?
func (e *engine) isForsaken(lit int) bool {
	return !slices.ContainsFunc(e.teamOf[lit], func(r int) bool { return !e.dropped(r) })
}

// isRefuted: has a foe +D?
func (e *engine) isRefuted(lit int) bool {
	return slices.ContainsFunc(e.theory.Foes[lit], func(foe int) bool { return e.has(foe, api.PlusDelta) })
}
