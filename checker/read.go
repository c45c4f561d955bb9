package checker

import (
	"lexprior/api"
	"lexprior/octets"
)

// mark is what the bytes begin with: a name, and which form they have.
const mark = "lxd\x01"

// refusal is what the checker gives up with: where the form is at fault with the place, where a step does not follow with its number.
type refusal struct {
	errno api.Errno
	at    int
}

func giveUp(errno api.Errno, at int) {
	panic(refusal{errno, at})
}

// refusalOf: what nothing here gave up with is a mistake of the program, and is not hidden.
func refusalOf(caught any) refusal {
	f, gaveUp := caught.(refusal)
	if !gaveUp {
		panic(caught)
	}
	return f
}

// reader goes over bytes from the left. It holds one step at a time, so that the longest bytes take no more room than the shortest.
type reader struct {
	bytes   []byte
	at      int
	choices []api.Choice // of the step that is read now; the next one's take their room
}

// walk: each step is handed over with its number, when it has been read.
func (r *reader) walk(take func(n int, s api.Step)) {
	for i := range len(mark) {
		r.octet(int(mark[i]), int(mark[i]))
	}
	for n := range r.number(api.MaxSteps) {
		take(n, r.step())
	}
	r.sum()
	if r.at < len(r.bytes) {
		giveUp(api.ErrTail, r.at)
	}
}

// step: its choices are there till the next one is read.
func (r *reader) step() api.Step {
	var s api.Step
	s.Tag = api.Tag(r.octet(int(api.PlusDelta), int(api.MinusPartial)))
	s.Lit = r.number(api.MaxLits - 1)
	s.How = api.How(r.octet(int(api.HowFact), int(api.HowBeaten)))
	s.Rule = r.orNone(api.MaxRules)
	r.choices = r.choices[:0]
	for range r.number(api.MaxRules) {
		place := r.orNone(api.MaxBody)
		rule := r.orNone(api.MaxRules)
		r.choices = append(r.choices, api.Choice{Place: place, Rule: rule})
	}
	s.Choices = r.choices
	return s
}

// sum: that all four bytes are there is asked ahead of what they say, since they are one thing.
func (r *reader) sum() {
	from := r.at
	said := uint32(0)
	for i := range 4 {
		said |= uint32(r.next()) << (8 * i)
	}
	if said != octets.Sum(r.bytes[:from]) {
		giveUp(api.ErrSum, from)
	}
}

func (r *reader) next() byte {
	if r.at == len(r.bytes) {
		giveUp(api.ErrShort, r.at)
	}
	c := r.bytes[r.at]
	r.at++
	return c
}

// octet: a byte from least to most.
func (r *reader) octet(least, most int) int {
	at := r.at
	c := int(r.next())
	if c < least || c > most {
		giveUp(api.ErrWire, at)
	}
	return c
}

// number: one from 0 to most.
func (r *reader) number(most int) int {
	n, behind, errno := octets.ReadUint(r.bytes, r.at)
	if errno != api.OK {
		giveUp(errno, behind)
	}
	// Compared as uint64: a number that no int holds must not wrap round to a small one.
	if n > uint64(most) {
		giveUp(api.ErrWire, r.at)
	}
	r.at = behind
	return int(n)
}

// orNone: a number below the limit, told one higher, since 0 tells that there is none.
func (r *reader) orNone(limit int) int {
	return r.number(limit) + none
}
