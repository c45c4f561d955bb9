package wire

import (
	"lexprior/api"
	"lexprior/octets"
)

// fault is what a reader gives up with.
type fault struct {
	errno api.Errno
	at    int
}

// faultOf: what no reader gave up with is a mistake of the program, and is not hidden.
func faultOf(caught any) fault {
	f, gaveUp := caught.(fault)
	if !gaveUp {
		panic(caught)
	}
	return f
}

// reader goes over bytes from the left, so that the first fault that it meets is the one to be told.
type reader struct {
	bytes []byte
	at    int
}

func (r *reader) giveUp(errno api.Errno, at int) {
	panic(fault{errno, at})
}

// whole: the steps that all bytes say.
func (r *reader) whole() []api.Step {
	r.mark()
	l := r.steps()
	r.sum()
	if r.at < len(r.bytes) {
		r.giveUp(api.ErrTail, r.at)
	}
	return l
}

func (r *reader) mark() {
	for i := range len(mark) {
		r.octet(int(mark[i]), int(mark[i]))
	}
}

// steps: the list grows as steps come, and does not trust how many there are said to be.
func (r *reader) steps() []api.Step {
	var l []api.Step
	for range r.number(api.MaxSteps) {
		l = append(l, r.step())
	}
	return l
}

func (r *reader) step() api.Step {
	var s api.Step
	s.Tag = api.Tag(r.octet(leastTag, mostTag))
	s.Lit = r.number(mostLit)
	s.How = api.How(r.octet(leastHow, mostHow))
	s.Rule = r.raised(mostRule)
	for range r.number(mostChoice) {
		place := r.raised(mostPlace)
		rule := r.raised(mostRule)
		s.Choices = append(s.Choices, api.Choice{Place: place, Rule: rule})
	}
	return s
}

// sum: all four bytes are wanted ahead of what they say, since they are one thing.
func (r *reader) sum() {
	from := r.at
	var said [4]byte
	for i := range said {
		said[i] = r.next()
	}
	if said != sumOf(r.bytes[:from]) {
		r.giveUp(api.ErrSum, from)
	}
}

func (r *reader) next() byte {
	if r.at == len(r.bytes) {
		r.giveUp(api.ErrShort, r.at)
	}
	c := r.bytes[r.at]
	r.at++
	return c
}

// octet: a byte from least to most.
func (r *reader) octet(least, most int) int {
	at := r.at
	c := int(r.next())
	if !within(c, least, most) {
		r.giveUp(api.ErrWire, at)
	}
	return c
}

// number: one from 0 to most.
func (r *reader) number(most int) int {
	n, behind, errno := octets.ReadUint(r.bytes, r.at)
	if errno != api.OK {
		r.giveUp(errno, behind)
	}
	// Compared as uint64: a number that no int holds must not wrap round to a small one.
	if n > uint64(most) {
		r.giveUp(api.ErrWire, r.at)
	}
	r.at = behind
	return int(n)
}

// raised: one from none to most.
func (r *reader) raised(most int) int {
	return r.number(most-none) + none
}
