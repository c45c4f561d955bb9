package guards

import (
	"slices"

	"lexprior/api"
	"lexprior/money"
	"lexprior/resolve"
)

// maker gathers a guard of a text's terms. What it is handed may be: as many members as names, and sides that are neither empty nor too long, so that neither a Coef nor the cents pass their words.
type maker struct {
	statute api.Statute
	names   []string
	members []int

	joined []api.Term // rising, of each atom one, which may have come to 0
	cents  api.Money
}

func maySide(terms []api.TermText) bool {
	return len(terms) >= 1 && len(terms) <= api.MaxTerms
}

// side takes a side's terms: as they are, or, with the sign -1, as if they stood on the other one.
func (m *maker) side(terms []api.TermText, sign int64) api.Errno {
	for _, t := range terms {
		if t.Pred == "" {
			if errno := money.Check(t.Value); errno != api.OK {
				return errno
			}
			m.cents += api.Money(sign) * t.Value
			continue
		}
		atom, errno := m.atom(t)
		if errno != api.OK {
			return errno
		}
		m.join(sign*t.Coef, atom)
	}
	return api.OK
}

func (m *maker) atom(t api.TermText) (api.Atom, api.Errno) {
	pred, there := resolve.Pred(m.statute, t.Pred)
	if !there {
		return api.Atom{}, api.ErrName
	}
	if t.Coef == 0 || !within(t.Coef, api.MaxCoef) {
		return api.Atom{}, api.ErrGuard
	}
	if len(t.Args) > api.MaxArity {
		return api.Atom{}, api.ErrArity
	}
	atom := api.Atom{Pred: pred}
	for _, name := range t.Args {
		member, errno := m.member(name)
		if errno != api.OK {
			return api.Atom{}, errno
		}
		atom.Args = append(atom.Args, member)
	}
	return atom, api.OK
}

func (m *maker) member(name string) (int, api.Errno) {
	if place := slices.Index(m.names, name); place >= 0 {
		if m.members[place] < 0 {
			return 0, api.ErrArg
		}
		return m.members[place], api.OK
	}
	member, there := resolve.Member(m.statute, name)
	if !there {
		return 0, api.ErrName
	}
	return member, api.OK
}

func (m *maker) join(coef int64, atom api.Atom) {
	place, there := slices.BinarySearchFunc(m.joined, atom, func(t api.Term, a api.Atom) int { return CompareAtoms(t.Atom, a) })
	if there {
		m.joined[place].Coef += coef
		return
	}
	m.joined = slices.Insert(m.joined, place, api.Term{Coef: coef, Atom: atom})
}

func (m *maker) terms() []api.Term {
	return slices.DeleteFunc(m.joined, func(t api.Term) bool { return t.Coef == 0 })
}
