package literals_test

import (
	"math"
	"slices"
	"sync"
	"testing"

	"lexprior/api"
	"lexprior/literals"
)

// given is what calls are asked with.
type given struct {
	preds []api.PredText
	class []int
	sorts []api.Sort
	lits  []api.Lit // what Close is asked of, and Find
	rise  []api.Lit // what Foes is asked of
	lit   api.Lit
}

// answers is what all calls say of it, those that answer no list in one number.
type answers struct {
	complement api.Lit
	mates      []api.Lit
	closed     []api.Lit
	foes       [][]int
	said       []int
}

func (g given) ask() answers {
	var a answers
	var errnos [4]api.Errno
	a.complement, errnos[0] = literals.Complement(g.lit)
	a.mates, errnos[1] = literals.Mates(g.preds, g.class, g.lit)
	a.closed, errnos[2] = literals.Close(g.preds, g.class, g.lits)
	a.foes, errnos[3] = literals.Foes(g.class, g.sorts, g.rise)
	for _, errno := range errnos {
		a.said = append(a.said, int(errno))
	}
	for _, l := range g.lits {
		place, there := literals.Find(g.lits, g.lit)
		a.said = append(a.said, literals.Compare(l, g.lit), int(literals.Check(g.preds, 2, l)), oneIf(literals.Conflict(g.class, g.sorts, l, g.lit)), place, oneIf(there))
	}
	return a
}

func equal(a, b answers) bool {
	return alike(a.complement, b.complement) && slices.EqualFunc(a.mates, b.mates, alike) && slices.EqualFunc(a.closed, b.closed, alike) && slices.EqualFunc(a.foes, b.foes, slices.Equal) && slices.Equal(a.said, b.said)
}

// lists: all lists of numbers that answers have.
func (a answers) lists() [][]int {
	all := append(slices.Clone(a.foes), a.complement.Atom.Args)
	for _, l := range slices.Concat(a.mates, a.closed) {
		all = append(all, l.Atom.Args)
	}
	return all
}

func (m *maker) given() given {
	m.fresh()
	g := given{preds: m.preds, class: m.class, sorts: m.sorts, lit: m.literal(), lits: m.rightLits()}
	if m.oneIn(4) {
		g.lits, g.lit = m.list(m.any), m.any()
	}
	g.rise = sorted(slices.Concat(g.lits, g.lits, m.list(m.any)))
	return g.copied()
}

func copiedLit(l api.Lit) api.Lit {
	l.Atom.Args = roomy(l.Atom.Args)
	return l
}

// roomy: a copy with a number more behind its end, which is no part of it.
func roomy(list []int) []int {
	return append(slices.Clone(list), 99)[:len(list)]
}

func copiedAll[T any](list []T, copyOne func(T) T) []T {
	other := make([]T, 0, len(list)+1)
	for _, one := range list {
		other = append(other, copyOne(one))
	}
	return other
}

// copied: no list of it is nil, all have room behind their end.
func (g given) copied() given {
	return given{
		preds: copiedAll(g.preds, func(p api.PredText) api.PredText {
			return api.PredText{Name: p.Name, Sort: p.Sort, Kinds: append([]string{}, p.Kinds...), Values: append([]api.Money{}, p.Values...)}
		}),
		class: roomy(g.class),
		sorts: append([]api.Sort{}, g.sorts...),
		lits:  copiedAll(g.lits, copiedLit),
		rise:  copiedAll(g.rise, copiedLit),
		lit:   copiedLit(g.lit),
	}
}

// stays: whether it is as that copy of it, behind the ends of its lists, too.
func (g given) stays(was given) bool {
	samePred := func(a, b api.PredText) bool {
		return a.Name == b.Name && a.Sort == b.Sort && slices.Equal(a.Kinds, b.Kinds) && slices.Equal(a.Values, b.Values)
	}
	full := func(list []int) []int { return list[:len(list)+1] }
	sameLit := func(a, b api.Lit) bool { return alike(a, b) && slices.Equal(full(a.Atom.Args), full(b.Atom.Args)) }
	sameLits := func(a, b []api.Lit) bool {
		return slices.EqualFunc(a, b, sameLit) && slices.EqualFunc(a[:cap(a)], b[:cap(b)], alike)
	}
	return slices.EqualFunc(g.preds, was.preds, samePred) && slices.Equal(full(g.class), full(was.class)) && slices.Equal(g.sorts, was.sorts) &&
		sameLits(g.lits, was.lits) && sameLits(g.rise, was.rise) && sameLit(g.lit, was.lit)
}

// TestArgumentsStay: as they were handed in.
func TestArgumentsStay(t *testing.T) {
	m := newMaker(901)
	for range 3000 {
		g := m.given()
		was := g.copied()
		g.ask()
		if !g.stays(was) {
			t.Fatalf("P9.7: %+v became %+v", was, g)
		}
	}
}

// spoil: every number in the memory of the answers' lists becomes another.
func (a answers) spoil() {
	for _, list := range a.lists() {
		list = list[:cap(list)]
		for n := range list {
			list[n] = -7
		}
	}
	for _, l := range [][]api.Lit{a.mates, a.closed} {
		l = l[:cap(l)]
		for n := range l {
			l[n] = api.Lit{Neg: true, Guard: -7}
		}
	}
	for n := range a.foes {
		a.foes[n] = nil
	}
}

// TestAnswersThatAreChanged: by their caller: what was handed in stays, and is answered the same anew; so do other answers.
func TestAnswersThatAreChanged(t *testing.T) {
	m := newMaker(902)
	for range 3000 {
		g := m.given()
		was, want, other := g.copied(), g.copied().ask(), g.ask()
		changed := g.ask()
		changed.spoil()
		if got := g.ask(); !equal(got, want) || !equal(other, want) {
			t.Fatalf("P9.7: of %+v: %+v and %+v, was %+v", g, got, other, want)
		}
		if !g.stays(was) {
			t.Fatalf("P9.7: %+v became %+v", was, g)
		}
	}
}

// TestAnswersStay: when what was handed in becomes something else.
func TestAnswersStay(t *testing.T) {
	m := newMaker(903)
	for range 3000 {
		g := m.given()
		got, want := g.ask(), g.copied().ask()
		for _, l := range [][]api.Lit{g.lits, g.rise, {g.lit}} {
			for n := range l {
				for k := range l[n].Atom.Args {
					l[n].Atom.Args[k] = -7
				}
				l[n] = api.Lit{Guard: -7}
			}
		}
		for n := range g.class {
			g.class[n], g.sorts[n], g.preds[n] = -7, -7, api.PredText{}
		}
		if !equal(got, want) {
			t.Fatalf("P9.7: the answers became %+v, were %+v", got, want)
		}
	}
}

// TestListsShareNothing: one list of an answer that becomes another, up to the end of its memory, leaves the others.
func TestListsShareNothing(t *testing.T) {
	m := newMaker(904)
	for range 1000 {
		g := m.given()
		a := g.ask()
		for n, list := range a.lists() {
			list = list[:cap(list)]
			was := slices.Clone(list)
			for k := range list {
				list[k] = math.MinInt
			}
			for other, l := range a.lists() {
				if other != n && slices.Contains(l[:cap(l)], math.MinInt) && !slices.Contains(g.ask().lists()[other], math.MinInt) {
					t.Fatalf("P9.7: of %+v two lists share memory: %+v", g, a)
				}
			}
			copy(list, was)
		}
	}
}

// TestSameAnswers: the same arguments have the same answers, alone and beside other calls; nil lists and empty ones are one.
func TestSameAnswers(t *testing.T) {
	m := newMaker(905)
	var all []given
	var wanted []answers
	for range 500 {
		g := m.given()
		all, wanted = append(all, g), append(wanted, g.ask())
	}
	var workers sync.WaitGroup
	for range 4 {
		workers.Go(func() {
			for n, g := range all {
				if got := g.ask(); !equal(got, wanted[n]) {
					t.Errorf("P3: of %+v another answer: %+v, then %+v", g, wanted[n], got)
				}
			}
		})
	}
	workers.Wait()
	for _, g := range []given{{}, {lit: guard(1)}, {lit: lit(1, 2)}, {preds: make([]api.PredText, 1), class: []int{0}}, {lits: make([]api.Lit, 2), rise: make([]api.Lit, 2)}, {lits: []api.Lit{guard(1)}, rise: []api.Lit{guard(1)}}} {
		if empty := g.copied(); !equal(g.ask(), empty.ask()) {
			t.Errorf("P1: of %+v: %+v, with empty lists for nil ones: %+v", g, g.ask(), empty.ask())
		}
	}
}
