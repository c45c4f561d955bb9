package facts

import "lexprior/api"

// literal is what a store knows of one: whether it is a fact now; and of a guard's by which guard.
type literal struct {
	plain bool
	fact  bool
	guard api.Guard
}

func (s *Store) made() bool {
	return s != nil && s.guarded != nil
}

func (s *Store) within(lit int) bool {
	return lit >= 0 && lit < len(s.lits)
}

// indexAtoms: an atom may get a number even if it stands in guards without a literal alone.
func (s *Store) indexAtoms() {
	for _, a := range s.atoms {
		k, _ := keyOf(a)
		s.guarded[k] = nil
	}
}

// layGuard puts a guard's literal behind the others. No atom has a number yet, so that just a guard without atoms may hold.
func (s *Store) layGuard(g api.Guard) {
	for _, term := range g.Terms {
		k, _ := keyOf(term.Atom)
		s.guarded[k] = append(s.guarded[k], len(s.lits))
	}
	s.lits = append(s.lits, literal{fact: Holds(g, nil), guard: guardApart(g)})
}

// turn makes a plain literal a fact, or none, which it must not be yet.
func (s *Store) turn(lit int, fact bool) api.Errno {
	if !s.made() {
		return api.ErrMade
	}
	if !s.within(lit) || !s.lits[lit].plain {
		return api.ErrLit
	}
	if s.lits[lit].fact == fact {
		return api.ErrFact
	}
	s.lits[lit].fact = fact
	return api.OK
}

// find: the key of an atom that stands in a guard.
func (s *Store) find(a api.Atom) (key, api.Errno) {
	if !s.made() {
		return key{}, api.ErrMade
	}
	k, may := keyOf(a)
	if !may {
		return key{}, api.ErrGuard
	}
	if _, there := s.guarded[k]; !there {
		return key{}, api.ErrGuard
	}
	return k, api.OK
}

// weigh looks anew at the guards in which an atom stands, since its number is another one: what came, and what went.
func (s *Store) weigh(k key) (came, went []int) {
	s.eachGuard(k, func(lit int, holds bool) {
		if holds && !s.lits[lit].fact {
			came = append(came, lit)
		}
		if !holds && s.lits[lit].fact {
			went = append(went, lit)
		}
		s.lits[lit].fact = holds
	})
	return came, went
}

// eachGuard hands the literals of the guards in which an atom stands to look, rising, and whether they hold by the numbers that there are now.
func (s *Store) eachGuard(k key, look func(lit int, holds bool)) {
	for _, lit := range s.guarded[k] {
		look(lit, s.holds(s.lits[lit].guard))
	}
}

// holds: a guard is asked with its own numbers alone, since a store may have many.
func (s *Store) holds(g api.Guard) bool {
	own := make([]api.Number, 0, len(g.Terms))
	for _, term := range g.Terms {
		v, there := s.Value(term.Atom)
		if !there {
			return false
		}
		own = append(own, api.Number{Atom: term.Atom, Value: v})
	}
	return Holds(g, own)
}
