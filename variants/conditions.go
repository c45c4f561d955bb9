package variants

import "slices"

// isSupported: +s. (What beats a rule for the literal has a foe of it as head.)
func (l *logic) isSupported(q int) bool {
	refuted := func(s int) bool { return l.partly(s, l.unpropagated) }
	return l.proved[q] || some(l.teamOf[q], func(r int) bool {
		return l.whole(r, l.supported) && every(l.beatersOf[r], refuted)
	})
}

// isUnsupported: -s.
func (l *logic) isUnsupported(q int) bool {
	used := func(s int) bool { return l.whole(s, l.propagated) }
	return l.disproved[q] && every(l.teamOf[q], func(r int) bool {
		return l.partly(r, l.unsupported) || some(l.beatersOf[r], used)
	})
}

// isPropagated: +v. A foe's rule stands in the way till it has no support, so that what is doubtful is not just passed by.
func (l *logic) isPropagated(q int) bool {
	if l.proved[q] {
		return true
	}
	used := func(r int) bool { return l.whole(r, l.propagated) }
	return some(l.teamOf[q], used) &&
		every(l.theory.Foes[q], func(foe int) bool { return l.disproved[foe] }) &&
		l.everyAgainst(q, func(s int) bool {
			return l.partly(s, l.unsupported) || some(l.teamOf[q], func(t int) bool { return used(t) && l.beats(t, s) })
		})
}

// isUnpropagated: -v.
func (l *logic) isUnpropagated(q int) bool {
	if !l.disproved[q] {
		return false
	}
	refuted := func(r int) bool { return l.partly(r, l.unpropagated) }
	return every(l.teamOf[q], refuted) ||
		some(l.theory.Foes[q], func(foe int) bool { return l.proved[foe] }) ||
		l.someAgainst(q, func(s int) bool {
			return l.whole(s, l.supported) && every(l.teamOf[q], func(t int) bool { return refuted(t) || !l.beats(t, s) })
		})
}

// whole: has each literal of the rule's body that tag?
func (l *logic) whole(r int, set tagged) bool {
	return set.met[r] == len(l.theory.Rules[r].Body)
}

// partly: has one of them?
func (l *logic) partly(r int, set tagged) bool {
	return set.met[r] > 0
}

// beats: is the one rule superior to the other? (The lists of a theory that may be rise.)
func (l *logic) beats(one, other int) bool {
	_, is := slices.BinarySearch(l.theory.Beats[one], other)
	return is
}

// everyAgainst: are all rules so that have a foe of the literal as head?
func (l *logic) everyAgainst(q int, so func(s int) bool) bool {
	return every(l.theory.Foes[q], func(foe int) bool { return every(l.rulesFor[foe], so) })
}

// someAgainst: is one of them so?
func (l *logic) someAgainst(q int, so func(s int) bool) bool {
	return some(l.theory.Foes[q], func(foe int) bool { return some(l.rulesFor[foe], so) })
}

func every(list []int, so func(n int) bool) bool {
	for _, n := range list {
		if !so(n) {
			return false
		}
	}
	return true
}

func some(list []int, so func(n int) bool) bool {
	return slices.ContainsFunc(list, so)
}
