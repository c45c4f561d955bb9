package naive

import (
	"slices"

	"lexprior/api"
)

// condition: does it hold of a literal, by what is known?
type condition func(k *known, q int) bool

// conditions: of each tag its own, at Tag - 1.
func conditions() [4]condition {
	return [4]condition{(*known).plusStrict, (*known).minusStrict, (*known).plusDefeasible, (*known).minusDefeasible}
}

// plusStrict: +D.
func (k *known) plusStrict(q int) bool {
	return k.fact[q] || some(k.strictFor[q], func(r int) bool { return k.whole(r, api.PlusDelta) })
}

// minusStrict: -D.
func (k *known) minusStrict(q int) bool {
	return !k.fact[q] && every(k.strictFor[q], func(r int) bool { return k.partly(r, api.MinusDelta) })
}

// plusDefeasible: +d. Any rule of the team may beat a foe's, not just the one by which the literal follows.
func (k *known) plusDefeasible(q int) bool {
	if k.has(q, api.PlusDelta) {
		return true
	}
	used := func(r int) bool { return k.whole(r, api.PlusPartial) }
	refuted := func(r int) bool { return k.partly(r, api.MinusPartial) }
	return some(k.teamOf[q], used) &&
		every(k.theory.Foes[q], func(foe int) bool { return k.has(foe, api.MinusDelta) }) &&
		k.everyAgainst(q, func(s int) bool {
			return refuted(s) || some(k.teamOf[q], func(t int) bool { return k.beats(t, s) && used(t) })
		})
}

// minusDefeasible: -d.
func (k *known) minusDefeasible(q int) bool {
	if !k.has(q, api.MinusDelta) {
		return false
	}
	used := func(r int) bool { return k.whole(r, api.PlusPartial) }
	refuted := func(r int) bool { return k.partly(r, api.MinusPartial) }
	return every(k.teamOf[q], refuted) ||
		some(k.theory.Foes[q], func(foe int) bool { return k.has(foe, api.PlusDelta) }) ||
		k.someAgainst(q, func(s int) bool {
			return used(s) && every(k.teamOf[q], func(t int) bool { return refuted(t) || !k.beats(t, s) })
		})
}

// everyAgainst: are all rules so that have a foe of the literal as head?
func (k *known) everyAgainst(q int, so func(s int) bool) bool {
	return every(k.theory.Foes[q], func(foe int) bool { return every(k.rulesFor[foe], so) })
}

// someAgainst: is one of them so?
func (k *known) someAgainst(q int, so func(s int) bool) bool {
	return some(k.theory.Foes[q], func(foe int) bool { return some(k.rulesFor[foe], so) })
}

func every(list []int, so func(n int) bool) bool {
	for _, n := range list {
		if !so(n) {
			return false
		}
	}
	return true
}

func some(list []int, so func(n int) bool) bool {
	return slices.ContainsFunc(list, so)
}
