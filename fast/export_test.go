package fast

import (
	"math/bits"

	"lexprior/api"
)

// Changes: of a run, how many updates it says, and how many steps lead from what was laid to what there is at its end. Each entry goes one way, step by step, so that none is hidden.
func Changes(t api.Theory, facts []int) (said, made int) {
	e := lay(t, facts)
	before := e.standing()
	e.work()
	for n, now := range e.standing() {
		made += max(now-before[n], before[n]-now)
	}
	return e.updates, made
}

// standing: of each entry how far it has gone.
func (e *engine) standing() []int {
	all := []int{len(e.told), e.taken}
	for _, said := range e.marks {
		all = append(all, bits.OnesCount8(uint8(said)))
	}
	flag := func(is bool) {
		if is {
			all = append(all, 1)
		} else {
			all = append(all, 0)
		}
	}
	for _, w := range []waits{e.strictly, e.defeasibly} {
		all = append(append(all, w.missing...), w.open...)
		for _, refuted := range w.refuted {
			flag(refuted)
		}
	}
	for _, clashes := range e.clashes {
		for _, against := range clashes {
			all = append(all, against.defenders)
			flag(against.beaten)
		}
	}
	return append(all, e.obstacles...)
}

// HandedOut: what the worklist hands out to one that stops at each, and goes on; at each a pair is told.
func HandedOut(t api.Theory, facts []int, pair api.Pair) []api.Pair {
	e := lay(t, facts)
	var all []api.Pair
	for {
		before := len(all)
		for next := range e.waiting {
			all = append(all, next)
			e.tell(pair.A, api.Tag(pair.B))
			break
		}
		if len(all) == before {
			return all
		}
	}
}
