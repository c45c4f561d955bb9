package naive_test

import (
	"slices"

	"lexprior/api"
)

// model asks the conditions by going through all rules and literals each time.
type model struct {
	theory api.Theory
	facts  []int
	marks  []api.Marks
}

func (m model) said(lit int, tag api.Tag) bool {
	return m.marks[lit]>>(tag-1)&1 == 1
}

// tagged: how many of a rule's body have the tag.
func (m model) tagged(r int, tag api.Tag) int {
	many := 0
	for _, lit := range m.theory.Rules[r].Body {
		if m.said(lit, tag) {
			many++
		}
	}
	return many
}

func (m model) whole(r int, tag api.Tag) bool {
	return m.tagged(r, tag) == len(m.theory.Rules[r].Body)
}

// rules: the numbers of those for a literal, of these kinds.
func (m model) rules(q int, kinds ...api.Arrow) []int {
	var list []int
	for r, rule := range m.theory.Rules {
		if rule.Head == q && slices.Contains(kinds, rule.Kind) {
			list = append(list, r)
		}
	}
	return list
}

// team: R_sd.
func (m model) team(q int) []int {
	return m.rules(q, api.Strict, api.Defeasible)
}

// attackers: the numbers of all rules with a foe as head.
func (m model) attackers(q int) []int {
	var list []int
	for s, rule := range m.theory.Rules {
		if slices.Contains(m.theory.Foes[q], rule.Head) {
			list = append(list, s)
		}
	}
	return list
}

// because: by which part of its condition a tag holds, or nothing.
func (m model) because(tag api.Tag, q int) string {
	switch tag {
	case api.PlusDelta:
		return m.plusDelta(q)
	case api.MinusDelta:
		return m.minusDelta(q)
	case api.PlusPartial:
		return m.plusPartial(q)
	}
	return m.minusPartial(q)
}

func (m model) plusDelta(q int) string {
	if slices.Contains(m.facts, q) {
		return "+D: a fact"
	}
	for _, r := range m.rules(q, api.Strict) {
		if m.whole(r, api.PlusDelta) {
			return "+D: a rule"
		}
	}
	return ""
}

func (m model) minusDelta(q int) string {
	if slices.Contains(m.facts, q) {
		return ""
	}
	for _, r := range m.rules(q, api.Strict) {
		if m.tagged(r, api.MinusDelta) == 0 {
			return ""
		}
	}
	return "-D"
}

func (m model) plusPartial(q int) string {
	if m.said(q, api.PlusDelta) {
		return "+d: by +D"
	}
	used := 0
	for _, r := range m.team(q) {
		if m.whole(r, api.PlusPartial) {
			used++
		}
	}
	if used == 0 {
		return ""
	}
	for _, foe := range m.theory.Foes[q] {
		if !m.said(foe, api.MinusDelta) {
			return ""
		}
	}
	because := "+d: unopposed"
	for _, s := range m.attackers(q) {
		if m.tagged(s, api.MinusPartial) > 0 {
			because = max(because, "+d: what is refuted is against it")
			continue
		}
		beaten := false
		for _, t := range m.team(q) {
			beaten = beaten || m.whole(t, api.PlusPartial) && slices.Contains(m.theory.Beats[t], s)
		}
		if !beaten {
			return ""
		}
		because = max(because, "+d: what is beaten is against it")
		if !m.whole(s, api.PlusPartial) {
			because = "+d: what is not known is beaten"
		}
	}
	return because
}

func (m model) minusPartial(q int) string {
	if !m.said(q, api.MinusDelta) {
		return ""
	}
	refuted := 0
	for _, r := range m.team(q) {
		if m.tagged(r, api.MinusPartial) > 0 {
			refuted++
		}
	}
	if refuted == len(m.team(q)) {
		return "-d: no rule"
	}
	for _, foe := range m.theory.Foes[q] {
		if m.said(foe, api.PlusDelta) {
			return "-d: a foe"
		}
	}
	for _, s := range m.attackers(q) {
		if !m.whole(s, api.PlusPartial) {
			continue
		}
		beaten, defended := false, false
		for _, t := range m.team(q) {
			if slices.Contains(m.theory.Beats[t], s) {
				beaten = true
				defended = defended || m.tagged(t, api.MinusPartial) == 0
			}
		}
		if beaten && !defended {
			return "-d: what beats is refuted"
		}
		if !defended {
			return "-d: by a foe's rule"
		}
	}
	return ""
}

// round: the next list, and by what each tag of it holds that was not there.
func (m model) round() ([]api.Marks, []string) {
	next := slices.Clone(m.marks)
	var because []string
	for q := range next {
		for _, tag := range tags {
			if why := m.because(tag, q); why != "" && !m.said(q, tag) {
				next[q] += 1 << (tag - 1)
				because = append(because, why)
			}
		}
	}
	return next, because
}

// solved: all lists, from that without any mark to the one that a round leaves as it is.
func solved(x api.Theory, facts []int, seen tally) [][]api.Marks {
	lists := [][]api.Marks{make([]api.Marks, x.Lits)}
	for {
		next, because := model{x, facts, lists[len(lists)-1]}.round()
		if len(because) == 0 {
			return lists
		}
		for _, why := range because {
			seen[why]++
		}
		lists = append(lists, next)
	}
}
