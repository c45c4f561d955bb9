package prior

import (
	"slices"

	"lexprior/api"
	"lexprior/resolve"
	"lexprior/theory"
)

// groundFault: why a ground can have no superiority by a statute, circles aside.
func groundFault(s api.Statute, g api.Ground) api.Errno {
	if errno, _ := resolve.Check(s); errno != api.OK {
		return errno
	}
	unordered := g.Theory
	unordered.Beats = make([][]int, len(unordered.Rules))
	if errno, _ := theory.Check(unordered); errno != api.OK {
		return errno
	}
	if len(g.Schema) != len(g.Theory.Rules) {
		return api.ErrArg
	}
	for _, schema := range g.Schema {
		if !within(schema, len(s.Rules)) {
			return api.ErrArg
		}
	}
	return api.OK
}

// superiority: of each rule those that it beats, rising. Rules are met by way of their heads' foes, since most of them are in no conflict.
func superiority(s api.Statute, g api.Ground) [][]int {
	j := newJudge(s)
	t := g.Theory
	rulesFor := make([][]int, t.Lits)
	for r, rule := range t.Rules {
		rulesFor[rule.Head] = append(rulesFor[rule.Head], r)
	}
	beats := make([][]int, len(t.Rules))
	for r, rule := range t.Rules {
		for _, foe := range t.Foes[rule.Head] {
			for _, other := range rulesFor[foe] {
				if j.prevails(g.Schema[r], g.Schema[other]) {
					beats[r] = append(beats[r], other)
				}
			}
		}
		slices.Sort(beats[r])
	}
	return beats
}

// withBeats: a ground of new memory but for these, which are new already.
func withBeats(g api.Ground, beats [][]int) api.Ground {
	t := api.Theory{
		Lits:  g.Theory.Lits,
		Foes:  each(g.Theory.Foes, copied),
		Rules: each(g.Theory.Rules, copiedRule),
		Beats: beats,
	}
	return api.Ground{Lits: each(g.Lits, copiedLit), Guards: each(g.Guards, copiedGuard), Schema: copied(g.Schema), Theory: t}
}

// each: a list of copies of the things of a list.
func each[T any](things []T, copyOf func(T) T) []T {
	var made []T
	for _, thing := range things {
		made = append(made, copyOf(thing))
	}
	return made
}

func copied(list []int) []int {
	return append([]int(nil), list...)
}

func copiedAtom(a api.Atom) api.Atom {
	a.Args = copied(a.Args)
	return a
}

func copiedLit(l api.Lit) api.Lit {
	l.Atom = copiedAtom(l.Atom)
	return l
}

func copiedTerm(t api.Term) api.Term {
	t.Atom = copiedAtom(t.Atom)
	return t
}

func copiedGuard(g api.Guard) api.Guard {
	g.Terms = each(g.Terms, copiedTerm)
	return g
}

func copiedRule(r api.Rule) api.Rule {
	r.Body = copied(r.Body)
	return r
}
