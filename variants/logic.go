package variants

import (
	"lexprior/api"
	"lexprior/strict"
)

// tagged is what has come to have a tag.
type tagged struct {
	lits []bool // of each literal whether it has it
	met  []int  // of each rule how many literals of its body have it
}

func newTagged(t api.Theory) tagged {
	return tagged{lits: make([]bool, t.Lits), met: make([]int, len(t.Rules))}
}

// logic is a theory that may be, what is looked up of it, and what is concluded.
type logic struct {
	theory    api.Theory
	rulesFor  [][]int // of each literal the rules for it
	teamOf    [][]int // the strict and defeasible ones
	users     [][]int // the rules that have it in their bodies
	beatersOf [][]int // of each rule those that beat it

	proved, disproved        []bool // +D, -D of each literal
	supported, unsupported   tagged // +s, -s
	propagated, unpropagated tagged // +v, -v

	waiting []int  // literals that are to be asked, each once
	waits   []bool // of each literal whether it is one of them
}

func newLogic(t api.Theory, plus, minus []int) *logic {
	l := &logic{
		theory:       t,
		rulesFor:     make([][]int, t.Lits),
		teamOf:       make([][]int, t.Lits),
		users:        make([][]int, t.Lits),
		beatersOf:    make([][]int, len(t.Rules)),
		proved:       flags(t.Lits, plus),
		disproved:    flags(t.Lits, minus),
		supported:    newTagged(t),
		unsupported:  newTagged(t),
		propagated:   newTagged(t),
		unpropagated: newTagged(t),
		waits:        make([]bool, t.Lits),
	}
	for r, rule := range t.Rules {
		l.rulesFor[rule.Head] = append(l.rulesFor[rule.Head], r)
		if rule.Kind != api.Defeater {
			l.teamOf[rule.Head] = append(l.teamOf[rule.Head], r)
		}
		for _, lit := range rule.Body {
			l.users[lit] = append(l.users[lit], r)
		}
		for _, s := range t.Beats[r] {
			l.beatersOf[s] = append(l.beatersOf[s], r)
		}
	}
	return l
}

// flags: of so many literals those.
func flags(many int, lits []int) []bool {
	list := make([]bool, many)
	for _, lit := range lits {
		list[lit] = true
	}
	return list
}

// conclude: all that follows. What this layer refuses is just what strict proof does, in the same order.
func conclude(t api.Theory, facts []int) (*logic, api.Errno) {
	plus, errno := strict.Plus(t, facts)
	if errno != api.OK {
		return nil, errno
	}
	minus, errno := strict.Minus(t, facts)
	if errno != api.OK {
		return nil, errno
	}
	l := newLogic(t, plus, minus)
	l.growAll()
	return l, api.OK
}

// growAll: till none grows. First every literal is asked, then only those whose conditions hang on what has come.
func (l *logic) growAll() {
	for q := range l.theory.Lits {
		l.wait(q)
	}
	for asked := l.taken(); len(asked) > 0; asked = l.taken() {
		l.grow(&l.supported, asked, l.isSupported)
		l.grow(&l.unsupported, asked, l.isUnsupported)
		l.grow(&l.propagated, asked, l.isPropagated)
		l.grow(&l.unpropagated, asked, l.isUnpropagated)
	}
}

// grow: by those of the asked literals of which the condition holds.
func (l *logic) grow(set *tagged, asked []int, holds func(q int) bool) {
	for _, q := range asked {
		if !set.lits[q] && holds(q) {
			l.add(set, q)
		}
	}
}

// add: a rule matters to its head, and to the head's foes, by the first literal of its body that has the tag and by the last.
func (l *logic) add(set *tagged, q int) {
	set.lits[q] = true
	for _, r := range l.users[q] {
		set.met[r]++
		rule := l.theory.Rules[r]
		if set.met[r] > 1 && set.met[r] < len(rule.Body) {
			continue
		}
		l.wait(rule.Head)
		for _, foe := range l.theory.Foes[rule.Head] {
			l.wait(foe)
		}
	}
}

func (l *logic) wait(q int) {
	if !l.waits[q] {
		l.waits[q] = true
		l.waiting = append(l.waiting, q)
	}
}

// taken: those that wait; from now on they may come to wait again.
func (l *logic) taken() []int {
	asked := l.waiting
	l.waiting = nil
	for _, q := range asked {
		l.waits[q] = false
	}
	return asked
}

// marks: +D and -D, and these two as +d and -d.
func (l *logic) marks(plus, minus tagged) []api.Marks {
	list := make([]api.Marks, l.theory.Lits)
	put := func(tag api.Tag, lits []bool) {
		for q, has := range lits {
			if has {
				list[q] |= 1 << (tag - 1)
			}
		}
	}
	put(api.PlusDelta, l.proved)
	put(api.MinusDelta, l.disproved)
	put(api.PlusPartial, plus.lits)
	put(api.MinusPartial, minus.lits)
	return list
}
