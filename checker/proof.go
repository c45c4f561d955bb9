package checker

import "lexprior/api"

// proof is what steps have said so far over a theory and facts, and what is asked about the next one.
type proof struct {
	*index
	fact  []bool // of each literal whether it is one
	said  []api.Marks
	claim Claim // of the steps so far
	table [4][5]condition
}

func newProof(t api.Theory, facts []int) *proof {
	p := &proof{index: newIndex(t), fact: make([]bool, t.Lits), said: make([]api.Marks, t.Lits)}
	for _, fact := range facts {
		p.fact[fact] = true
	}
	p.table = p.conditions()
	return p
}

// check: what bytes show, or why they show nothing.
func (p *proof) check(b []byte) (c Claim, errno api.Errno, at int) {
	defer func() {
		if caught := recover(); caught != nil {
			f := refusalOf(caught)
			c, errno, at = Claim{}, f.errno, f.at
		}
	}()
	// A fault of the form goes ahead of a step that doesn't follow, wherever the two are: so the bytes are gone over to their end first.
	form := &reader{bytes: b}
	form.walk(func(int, api.Step) {})
	steps := &reader{bytes: b}
	steps.walk(p.hear)
	if p.claim.Steps == 0 {
		giveUp(api.ErrNone, 0)
	}
	return p.claim, api.OK, len(b)
}

// hear: the step must follow from those heard so far.
func (p *proof) hear(_ int, s api.Step) {
	p.ask(s.Lit < p.theory.Lits)
	follows := p.table[s.Tag-1][s.How-1]
	p.ask(follows != nil)
	follows(s)
	p.said[s.Lit] |= bit(s.Tag)
	p.claim = Claim{Lit: s.Lit, Tag: s.Tag, Steps: p.claim.Steps + 1}
}

// ask: what must be so for the step to follow. Its number is how many did.
func (p *proof) ask(so bool) {
	if !so {
		giveUp(api.ErrClaim, p.claim.Steps)
	}
}

// askAhead: some step has said the literal's tag.
func (p *proof) askAhead(lit int, tag api.Tag) {
	p.ask(p.said[lit]&bit(tag) != 0)
}

func (p *proof) askBody(r int, tag api.Tag) {
	for _, lit := range p.body(r) {
		p.askAhead(lit, tag)
	}
}

// bit: by which marks say a tag.
func bit(tag api.Tag) api.Marks {
	return 1 << (tag - 1)
}
