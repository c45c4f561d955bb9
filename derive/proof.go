package derive

import (
	"slices"

	"lexprior/api"
)

// proof is what has been said so far over a theory and facts.
type proof struct {
	*index
	fact []bool // of each literal whether it is one
	said []api.Marks
}

func newProof(t api.Theory, facts []int) *proof {
	p := &proof{index: newIndex(t), fact: make([]bool, t.Lits), said: make([]api.Marks, t.Lits)}
	for _, fact := range facts {
		p.fact[fact] = true
	}
	return p
}

// say: the step is ahead of what comes. Of one that is not of the theory nothing can follow.
func (p *proof) say(s api.Step) {
	if within(s.Lit, p.theory.Lits) && isTag(s.Tag) {
		p.said[s.Lit] |= bit(s.Tag)
	}
}

// bit: by which marks say a tag.
func bit(tag api.Tag) api.Marks {
	return 1 << (tag - 1)
}

func (p *proof) has(lit int, tag api.Tag) bool {
	return p.said[lit]&bit(tag) != 0
}

func (p *proof) follows(s api.Step) bool {
	whole := true
	formed := p.hasForm(s, func(lit int, tag api.Tag) { whole = whole && p.has(lit, tag) })
	return formed && whole && p.suitsFacts(s)
}

// suitsFacts: +D by a fact asks for one, -D that there is none.
func (p *proof) suitsFacts(s api.Step) bool {
	switch {
	case s.How == api.HowFact:
		return p.fact[s.Lit]
	case s.Tag == api.MinusDelta:
		return !p.fact[s.Lit]
	}
	return true
}

// check: is it a derivation, and where is it none? How many steps it has, if it is.
func (p *proof) check(l []api.Step) (api.Errno, int) {
	if len(l) > api.MaxSteps {
		return api.ErrCount, 0
	}
	for n, s := range l {
		if !p.follows(s) {
			return api.ErrStep, n
		}
		p.say(s)
	}
	return api.OK, len(l)
}

// lean: of a derivation with at least one step, the first that says what its last one does, all that this needs, and what those need. What a step needs is said ahead of it, so that one way back meets all.
func (x *index) lean(l []api.Step) []api.Step {
	first := map[api.Pair]int{}
	for n, s := range slices.Backward(l) {
		first[says(s.Lit, s.Tag)] = n
	}
	wanted := make([]bool, len(l))
	want := func(lit int, tag api.Tag) { wanted[first[says(lit, tag)]] = true }
	last := l[len(l)-1]
	want(last.Lit, last.Tag)
	for n, s := range slices.Backward(l) {
		if wanted[n] {
			x.hasForm(s, want)
		}
	}
	var kept []api.Step
	for n, s := range l {
		if wanted[n] {
			s.Choices = append([]api.Choice(nil), s.Choices...)
			kept = append(kept, s)
		}
	}
	return kept
}
