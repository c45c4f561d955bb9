package resolve

import (
	"lexprior/api"
	"lexprior/symbols"
)

// fault is what a resolver gives up with.
type fault struct {
	errno api.Errno
	item  int
}

// resolver goes over a statute's items once; a method asks all of a thing that the chapter does, in its order, or gives up.
type resolver struct {
	statute api.Statute
	item    int // the number of the item that is asked about

	// Of each name the number of the first that has it, so that one with another number has it twice.
	kinds   map[string]int
	members map[string]int
	preds   map[string]int
	sources map[string]int
	rules   map[string]int
	excepts map[api.Exception]int
	totals  map[string]int

	classes map[string]int // of the predicates that were named so far
}

// firstFault: of the statute, then of what more is asked; if there is none, OK and how many items there are.
func firstFault(s api.Statute, more func(r *resolver)) (first fault) {
	defer func() {
		if caught := recover(); caught != nil {
			first = faultOf(caught)
		}
	}()
	r := &resolver{statute: s}
	r.counts()
	r.number()
	r.items()
	more(r)
	return fault{errno: api.OK, item: r.item}
}

// faultOf: what no resolver gave up with is a mistake of the program, and is not hidden.
func faultOf(caught any) fault {
	f, gaveUp := caught.(fault)
	if !gaveUp {
		panic(caught)
	}
	return f
}

func (r *resolver) fail(errno api.Errno) {
	panic(fault{errno: errno, item: r.item})
}

func (r *resolver) want(holds bool, errno api.Errno) {
	if !holds {
		r.fail(errno)
	}
}

// find: the number that a name has there.
func (r *resolver) find(numbers map[string]int, name string, errno api.Errno) int {
	n, there := numbers[name]
	r.want(there, errno)
	return n
}

// called asks about the name of an item, which has that number in its list.
func (r *resolver) called(name string, numbers map[string]int, number int) {
	r.want(symbols.IsName(name), api.ErrSymbol)
	r.want(numbers[name] == number, api.ErrTwice)
}

func (r *resolver) counts() {
	s := r.statute
	r.want(len(s.Kinds) <= api.MaxKinds, api.ErrCount)
	r.want(len(s.Members) <= api.MaxMembers, api.ErrCount)
	r.want(len(s.Preds) <= api.MaxPreds, api.ErrCount)
	r.want(len(s.Classes) <= api.MaxClasses, api.ErrCount)
	r.want(len(s.Sources) <= api.MaxSources, api.ErrCount)
	r.want(len(s.Rules) <= api.MaxSchemas, api.ErrCount)
	r.want(len(s.Excepts) <= api.MaxExcepts, api.ErrCount)
	r.want(len(s.Totals) <= api.MaxTotals, api.ErrCount)
}

func (r *resolver) number() {
	s := r.statute
	r.kinds = numbered(s.Kinds, itself)
	r.members = numbered(s.Members, memberName)
	r.preds = numbered(s.Preds, predName)
	r.sources = numbered(s.Sources, sourceName)
	r.rules = numbered(s.Rules, ruleName)
	r.excepts = numbered(s.Excepts, itself)
	r.totals = numbered(s.Totals, totalName)
	r.classes = map[string]int{}
}

func (r *resolver) items() {
	s := r.statute
	each(r, s.Kinds, r.kind)
	each(r, s.Members, r.member)
	each(r, s.Preds, r.pred)
	each(r, s.Classes, r.class)
	each(r, s.Sources, r.source)
	each(r, s.Rules, r.rule)
	each(r, s.Excepts, r.exception)
	each(r, s.Totals, r.total)
}

// each asks about all items of a list, with their numbers there.
func each[T any](r *resolver, things []T, ask func(number int, thing T)) {
	for number, thing := range things {
		ask(number, thing)
		r.item++
	}
}
