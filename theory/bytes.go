package theory

import (
	"lexprior/api"
	"lexprior/octets"
)

// mark is what a theory's bytes begin with: a name, and which form they have.
const mark = "thy\x01"

// written: the bytes of a theory that may be.
func written(t api.Theory) []byte {
	b := put([]byte(mark), t.Lits)
	for lit, foes := range t.Foes {
		b = putList(b, above(lit, foes))
	}
	b = put(b, len(t.Rules))
	for _, rule := range t.Rules {
		b = put(b, int(rule.Kind))
		b = put(b, rule.Head)
		b = putList(b, rule.Body)
	}
	for _, beaten := range t.Beats {
		b = putList(b, beaten)
	}
	return b
}

// above: the foes below a literal are told with these.
func above(lit int, foes []int) []int {
	for n, foe := range foes {
		if foe > lit {
			return foes[n:]
		}
	}
	return nil
}

func put(b []byte, n int) []byte {
	return append(b, octets.Uint(uint64(n))...)
}

func putList(b []byte, list []int) []byte {
	b = put(b, len(list))
	for _, n := range list {
		b = put(b, n)
	}
	return b
}

// fault is what a reader gives up with.
type fault struct {
	errno api.Errno
	at    int
}

// faultOf: what no reader gave up with is a mistake of the program, and is not hidden.
func faultOf(caught any) fault {
	f, gaveUp := caught.(fault)
	if !gaveUp {
		panic(caught)
	}
	return f
}

// reader goes over bytes from the left.
type reader struct {
	bytes []byte
	at    int
}

func (r *reader) giveUp(errno api.Errno, at int) {
	panic(fault{errno, at})
}

// whole: the theory that all bytes say.
func (r *reader) whole() api.Theory {
	r.mark()
	var t api.Theory
	t.Lits = r.count(api.MaxLits)
	t.Foes = r.foes(t.Lits)
	t.Rules = r.rules(t.Lits)
	t.Beats = r.beats(len(t.Rules))
	if r.at < len(r.bytes) {
		r.giveUp(api.ErrTail, r.at)
	}
	if errno, _ := Check(t); errno != api.OK {
		r.giveUp(errno, 0)
	}
	return t
}

func (r *reader) mark() {
	for ; r.at < len(mark); r.at++ {
		if r.at == len(r.bytes) {
			r.giveUp(api.ErrShort, r.at)
		}
		if r.bytes[r.at] != mark[r.at] {
			r.giveUp(api.ErrArg, r.at)
		}
	}
}

// number: one from least on, and below that other one; else there is that fault at its place.
func (r *reader) number(least, below int, otherwise api.Errno) int {
	n, behind, errno := octets.ReadUint(r.bytes, r.at)
	if errno != api.OK {
		r.giveUp(errno, behind)
	}
	// Compared as uint64: a number that no int holds must not wrap round to a small one.
	if n < uint64(least) || n >= uint64(below) {
		r.giveUp(otherwise, r.at)
	}
	r.at = behind
	return int(n)
}

func (r *reader) count(most int) int {
	return r.number(0, most+1, api.ErrCount)
}

// list: a count and so many numbers, rising, from least on.
func (r *reader) list(most, least, below int, otherwise api.Errno) []int {
	var list []int
	for range r.count(most) {
		n := r.number(least, below, otherwise)
		list = append(list, n)
		least = n + 1
	}
	return list
}

// foes: those above a literal are read, and give it back; so each list begins with those below, which come first.
func (r *reader) foes(lits int) [][]int {
	foes := make([][]int, lits)
	for lit := range lits {
		for _, foe := range r.list(api.MaxFoes, lit+1, lits, api.ErrFoe) {
			foes[lit] = append(foes[lit], foe)
			foes[foe] = append(foes[foe], lit)
		}
	}
	return foes
}

func (r *reader) rules(lits int) []api.Rule {
	var rules []api.Rule
	for range r.count(api.MaxRules) {
		kind := r.number(int(api.Strict), int(api.Defeater)+1, api.ErrRule)
		head := r.number(0, lits, api.ErrRule)
		body := r.list(api.MaxBody, 0, lits, api.ErrRule)
		rules = append(rules, api.Rule{Kind: api.Arrow(kind), Head: head, Body: body})
	}
	return rules
}

func (r *reader) beats(rules int) [][]int {
	var beats [][]int
	for range rules {
		beats = append(beats, r.list(api.MaxRules, 0, rules, api.ErrBeat))
	}
	return beats
}
