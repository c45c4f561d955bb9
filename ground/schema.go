package ground

import (
	"slices"

	"lexprior/api"
	"lexprior/guards"
	"lexprior/resolve"
)

// schema is one whose names are found, to be put under assignments.
type schema struct {
	arrow  api.Arrow
	walk   walk
	head   pattern
	lits   []pattern
	guards []*comparison
}

// schemaOf: of a statute that resolve.Check takes.
func schemaOf(s api.Statute, number int) schema {
	text := s.Rules[number]
	// Asked of this rule alone, since resolve checks all that it is handed each time; nothing in a rule hangs on another one.
	alone := s
	alone.Rules, alone.Excepts, alone.Totals = []api.RuleText{text}, nil, nil
	vars, kinds, _ := resolve.Vars(alone, 0)
	n := newNames(s, vars)
	ready := schema{arrow: text.Arrow, walk: walkOf(s, kinds, n, text.Body), head: n.pattern(text.Head)}
	for _, p := range text.Body {
		switch p.Kind {
		case api.PremiseLit:
			ready.lits = append(ready.lits, n.pattern(p.Lit))
		case api.PremiseGuard:
			ready.guards = append(ready.guards, n.comparison(s, p.Guard))
		}
	}
	return ready
}

// pattern is a literal of a schema.
type pattern struct {
	neg   bool
	pred  int
	args  []argument
	value api.Money
}

func (n names) pattern(l api.LitText) pattern {
	return pattern{neg: l.Neg, pred: n.preds[l.Pred], args: n.allArguments(l.Args), value: l.Value}
}

// under: the literal, with Args of its own.
func (p pattern) under(members []int) api.Lit {
	return api.Lit{Neg: p.neg, Atom: api.Atom{Pred: p.pred, Args: allUnder(p.args, members), Value: p.value}}
}

// key is a literal that may be as a map can hold it: the predicate says how many of args count.
type key struct {
	neg   bool
	pred  int
	args  [api.MaxArity]int
	value api.Money
}

func keyOf(l api.Lit) key {
	k := key{neg: l.Neg, pred: l.Atom.Pred, value: l.Atom.Value}
	copy(k.args[:], l.Atom.Args)
	return k
}

// comparison is a guard of a schema.
type comparison struct {
	text  api.GuardText
	few   api.Statute    // the predicates that stand in it, alone
	preds []int          // their numbers in the whole statute, rising
	names []string       // its arguments
	args  []argument     // what they are
	came  map[string]int // by what they come to: the guard's place among those that came
}

func (n names) comparison(s api.Statute, text api.GuardText) *comparison {
	c := &comparison{text: text, came: map[string]int{}}
	for _, term := range slices.Concat(text.Left, text.Right) {
		if term.Pred != "" {
			c.preds = append(c.preds, n.preds[term.Pred])
		}
		c.names = append(c.names, term.Args...)
	}
	slices.Sort(c.preds)
	c.args = n.allArguments(c.names)
	for _, number := range c.preds {
		c.few.Preds = append(c.few.Preds, s.Preds[number])
	}
	return c
}

// under: the guard. Of a statute that resolve.Check takes there is always one.
func (c *comparison) under(members []int) api.Guard {
	// For each term all predicates that there are would be gone through. The few rise as they do in the whole statute, so the terms stay in order.
	g, _ := guards.Of(c.few, c.text, c.names, allUnder(c.args, members))
	for n := range g.Terms {
		g.Terms[n].Atom.Pred = c.preds[g.Terms[n].Atom.Pred]
	}
	return g
}

// sign is the same for two assignments under which the arguments are the same. Members' numbers are below MaxMembers, so a byte has room for each.
func (c *comparison) sign(members []int) string {
	var sign []byte
	for _, member := range allUnder(c.args, members) {
		sign = append(sign, byte(member))
	}
	return string(sign)
}
