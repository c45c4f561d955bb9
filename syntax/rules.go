package syntax

import "lexprior/api"

func (r *reader) rule() api.RuleText {
	rule := api.RuleText{Name: r.name()}
	r.wantWord("of")
	rule.Source = r.name()
	r.wantWord("at")
	rule.At = r.date()
	if r.hasWord("until") {
		rule.Until = r.date()
	}
	r.wantMark(":")
	if arrowOf(r.ahead(0)) == 0 {
		rule.Body = list(r, api.MaxBody, r.premise, r.comma)
	}
	rule.Arrow = r.arrow()
	rule.Head = r.literal()
	return rule
}

// arrowOf: 0, if the token is none.
func arrowOf(t api.Token) api.Arrow {
	switch {
	case isMark(t, "->"):
		return api.Strict
	case isMark(t, "=>"):
		return api.Defeasible
	case isMark(t, "~>"):
		return api.Defeater
	}
	return 0
}

func (r *reader) arrow() api.Arrow {
	arrow := arrowOf(r.ahead(0))
	if arrow == 0 {
		r.fail(api.ErrToken)
	}
	r.take()
	return arrow
}

func (r *reader) premise() api.PremiseText {
	first := r.ahead(0)
	named := first.Kind == api.TokenName || first.Kind == api.TokenVar
	switch {
	case named && isMark(r.ahead(1), "!="):
		return r.unlike()
	case isMark(first, "{"):
		return api.PremiseText{Kind: api.PremiseGuard, Guard: r.guard()}
	}
	return api.PremiseText{Kind: api.PremiseLit, Lit: r.literal()}
}

func (r *reader) unlike() api.PremiseText {
	a := r.argument()
	r.wantMark("!=")
	return api.PremiseText{Kind: api.PremiseUnlike, A: a, B: r.argument()}
}

func (r *reader) literal() api.LitText {
	literal := api.LitText{Neg: r.hasMark("-")}
	literal.Pred = r.name()
	literal.Args = r.inBrackets(r.argument)
	if r.hasMark("=") {
		literal.HasValue = true
		literal.Value = r.money()
	}
	return literal
}

func (r *reader) guard() api.GuardText {
	r.wantMark("{")
	guard := api.GuardText{Left: r.side()}
	guard.Op = r.op()
	guard.Right = r.side()
	r.wantMark("}")
	return guard
}

func (r *reader) side() []api.TermText {
	r.minus = false
	return list(r, api.MaxTerms, r.term, r.sign)
}

// sign: whether a term follows, whose sign it keeps for that term.
func (r *reader) sign() bool {
	r.minus = r.hasMark("-")
	return r.minus || r.hasMark("+")
}

func (r *reader) term() api.TermText {
	t := r.plainTerm()
	if r.minus {
		t.Coef, t.Value = -t.Coef, -t.Value
	}
	return t
}

// plainTerm: a term as it stands, whatever the sign between it and the one ahead of it.
func (r *reader) plainTerm() api.TermText {
	// What follows a number says whether it is a factor; a factor has no - of its own.
	numbered := r.ahead(0).Kind == api.TokenNumber
	counted := numbered && isMark(r.ahead(1), "*")
	if numbered && !counted || isMark(r.ahead(0), "-") {
		return api.TermText{Value: r.money()}
	}
	t := api.TermText{Coef: 1}
	if counted {
		t.Coef = int64(r.integer(1, api.MaxCoef))
		r.wantMark("*")
	}
	t.Pred = r.name()
	t.Args = r.inBrackets(r.argument)
	return t
}

func opOf(t api.Token) api.Op {
	switch {
	case isMark(t, "<"):
		return api.OpLess
	case isMark(t, "<="):
		return api.OpMost
	case isMark(t, "=="):
		return api.OpEqual
	case isMark(t, "<>"):
		return api.OpUnequal
	case isMark(t, ">="):
		return api.OpLeast
	case isMark(t, ">"):
		return api.OpMore
	}
	return 0
}

func (r *reader) op() api.Op {
	op := opOf(r.ahead(0))
	if op == 0 {
		r.fail(api.ErrToken)
	}
	r.take()
	return op
}
