package resolve

import (
	"slices"

	"lexprior/api"
	"lexprior/money"
)

func (r *resolver) kind(number int, name string) {
	r.called(name, r.kinds, number)
}

func (r *resolver) member(number int, m api.MemberText) {
	r.called(m.Name, r.members, number)
	r.find(r.kinds, m.Kind, api.ErrKind)
}

func (r *resolver) pred(number int, p api.PredText) {
	r.called(p.Name, r.preds, number)
	r.want(p.Sort >= api.SortPlain && p.Sort <= api.SortAmount, api.ErrSort)
	r.want(len(p.Kinds) <= api.MaxArity && len(p.Values) <= api.MaxValues, api.ErrCount)
	for _, kind := range p.Kinds {
		r.find(r.kinds, kind, api.ErrKind)
	}
	r.want((len(p.Values) > 0) == (p.Sort == api.SortAmount), api.ErrValue)
	for i, value := range p.Values {
		r.want(mayBeAwarded(value) && !slices.Contains(p.Values[:i], value), api.ErrValue)
	}
}

// mayBeAwarded: nobody is awarded less than nothing.
func mayBeAwarded(m api.Money) bool {
	return money.Check(m) == api.OK && m >= 0
}

// findPred: the predicate of that name.
func (r *resolver) findPred(name string) api.PredText {
	return r.statute.Preds[r.find(r.preds, name, api.ErrName)]
}

func (r *resolver) class(number int, names []string) {
	r.want(len(names) >= 2 && len(names) <= api.MaxInClass, api.ErrCount)
	for _, name := range names {
		p := r.findPred(name)
		r.want(p.Sort == api.SortPlain, api.ErrSort)
		r.want(slices.Equal(p.Kinds, r.findPred(names[0]).Kinds), api.ErrClass)
		r.want(put(r.classes, name, number), api.ErrTwice)
	}
}

func (r *resolver) source(number int, s api.SourceText) {
	r.called(s.Name, r.sources, number)
	r.want(s.Rank >= 0 && s.Rank <= api.MaxRank, api.ErrRange)
}

func (r *resolver) exception(number int, e api.Exception) {
	r.find(r.rules, e.Over, api.ErrName)
	r.find(r.rules, e.Under, api.ErrName)
	r.want(r.excepts[e] == number, api.ErrTwice)
}

func (r *resolver) total(number int, t api.TotalText) {
	r.called(t.Name, r.totals, number)
	r.find(r.kinds, t.Kind, api.ErrKind)
	r.want(len(t.Preds) >= 1 && len(t.Preds) <= api.MaxInClass, api.ErrCount)
	for i, name := range t.Preds {
		p := r.findPred(name)
		r.want(p.Sort == api.SortAmount, api.ErrSort)
		r.want(len(p.Kinds) == 1 && p.Kinds[0] == t.Kind, api.ErrArity)
		r.want(!slices.Contains(t.Preds[:i], name), api.ErrTwice)
	}
	r.want(!t.HasCap || mayBeAwarded(t.Cap), api.ErrOver)
	r.want(t.HasCap || t.Cap == 0, api.ErrArg)
}
