package syntax

import "lexprior/api"

func (r *reader) text() {
	if r.hasWord("statute") {
		r.statute.Title = r.quote()
		r.wantMark(".")
	}
	for r.next < len(r.tokens) {
		r.item()
		r.wantMark(".")
	}
}

func (r *reader) item() {
	s := &r.statute
	switch {
	case r.hasWord("kind"):
		s.Kinds = add(r, s.Kinds, api.MaxKinds, r.name)
	case r.hasWord("member"):
		s.Members = append(s.Members, r.members(api.MaxMembers-len(s.Members))...)
	case r.hasWord("pred"):
		s.Preds = add(r, s.Preds, api.MaxPreds, r.plain)
	case r.hasWord("number"):
		s.Preds = add(r, s.Preds, api.MaxPreds, r.number)
	case r.hasWord("amount"):
		s.Preds = add(r, s.Preds, api.MaxPreds, r.amount)
	case r.hasWord("class"):
		s.Classes = add(r, s.Classes, api.MaxClasses, r.class)
	case r.hasWord("source"):
		s.Sources = add(r, s.Sources, api.MaxSources, r.source)
	case r.hasWord("rule"):
		s.Rules = add(r, s.Rules, api.MaxSchemas, r.rule)
	case r.hasWord("exception"):
		s.Excepts = add(r, s.Excepts, api.MaxExcepts, r.exception)
	case r.hasWord("total"):
		s.Totals = add(r, s.Totals, api.MaxTotals, r.total)
	default:
		r.fail(api.ErrToken)
	}
}

func (r *reader) members(most int) []api.MemberText {
	names := list(r, most, r.name, r.comma)
	r.wantMark(":")
	kind := r.name()
	members := make([]api.MemberText, len(names))
	for i, name := range names {
		members[i] = api.MemberText{Name: name, Kind: kind}
	}
	return members
}

func (r *reader) plain() api.PredText {
	return r.pred(api.SortPlain)
}

func (r *reader) number() api.PredText {
	return r.pred(api.SortNumber)
}

func (r *reader) amount() api.PredText {
	p := r.pred(api.SortAmount)
	r.wantMark(":")
	p.Values = list(r, api.MaxValues, r.money, r.comma)
	return p
}

func (r *reader) pred(sort api.Sort) api.PredText {
	name := r.name()
	return api.PredText{Name: name, Sort: sort, Kinds: r.inBrackets(r.name)}
}

func (r *reader) class() []string {
	names := list(r, api.MaxInClass, r.name, r.comma)
	if len(names) == 1 {
		r.fail(api.ErrToken)
	}
	return names
}

func (r *reader) source() api.SourceText {
	name := r.name()
	r.wantWord("rank")
	return api.SourceText{Name: name, Rank: r.integer(0, api.MaxRank)}
}

func (r *reader) exception() api.Exception {
	over := r.name()
	r.wantWord("to")
	return api.Exception{Over: over, Under: r.name()}
}

func (r *reader) total() api.TotalText {
	total := api.TotalText{Name: r.name()}
	r.wantMark("(")
	total.Kind = r.name()
	r.wantMark(")")
	r.wantMark(":")
	total.Preds = list(r, api.MaxInClass, r.name, r.comma)
	if r.hasWord("cap") {
		total.HasCap = true
		total.Cap = r.money()
	}
	return total
}
