package facts

import (
	"lexprior/api"
	"lexprior/guards"
	"lexprior/theory"
)

// key is an atom as a map finds it; behind its last argument there are zeros.
type key struct {
	pred int
	many int
	args [api.MaxArity]int
}

// keyOf: false, if no guard has such an atom.
func keyOf(a api.Atom) (key, bool) {
	if a.Value != 0 || len(a.Args) > api.MaxArity {
		return key{}, false
	}
	k := key{pred: a.Pred, many: len(a.Args)}
	for n, arg := range a.Args {
		k.args[n] = arg
	}
	return k, true
}

// may: may it be a ground statute?
func may(g api.Ground) bool {
	errno, _ := theory.Check(g.Theory)
	return errno == api.OK && len(g.Lits) == g.Theory.Lits && mayLits(g.Lits, len(g.Guards)) && mayGuards(g.Guards)
}

// mayLits: no two are of one guard, and there is that guard.
func mayLits(lits []api.Lit, many int) bool {
	taken := make([]bool, many)
	for _, l := range lits {
		if l.Guard == 0 {
			continue
		}
		if l.Guard < 0 || l.Guard > many || taken[l.Guard-1] {
			return false
		}
		taken[l.Guard-1] = true
	}
	return true
}

func mayGuards(all []api.Guard) bool {
	for _, g := range all {
		if guards.Check(g) != api.OK {
			return false
		}
	}
	return true
}

// apart: with Args of its own.
func apart(a api.Atom) api.Atom {
	a.Args = append([]int(nil), a.Args...)
	return a
}

func guardApart(g api.Guard) api.Guard {
	terms := make([]api.Term, 0, len(g.Terms))
	for _, term := range g.Terms {
		terms = append(terms, api.Term{Coef: term.Coef, Atom: apart(term.Atom)})
	}
	g.Terms = terms
	return g
}
