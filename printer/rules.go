package printer

import "lexprior/api"

func rule(r api.RuleText) part {
	return row(
		texts("rule ", r.Name, " of ", r.Source, " at "),
		day(r.At),
		only(r.Until != 0, row(texts(" until "), day(r.Until))),
		texts(" : "),
		listed(r.Body, premise),
		only(len(r.Body) > 0, texts(" ")),
		oneOf(r.Arrow, "->", "=>", "~>"),
		texts(" "),
		literal(r.Head),
	)
}

func premise(p api.PremiseText) part {
	switch p.Kind {
	case api.PremiseLit:
		return literal(p.Lit)
	case api.PremiseGuard:
		return guard(p.Guard)
	case api.PremiseUnlike:
		return texts(p.A, " != ", p.B)
	}
	return func(*writer) { giveUp() }
}

func literal(l api.LitText) part {
	return row(
		only(l.Neg, texts("-")),
		name(l.Pred),
		inBrackets(l.Args),
		only(l.HasValue, row(texts(" = "), amount(l.Value))),
	)
}

func guard(g api.GuardText) part {
	return row(
		texts("{"),
		side(g.Left),
		texts(" "),
		oneOf(g.Op, "<", "<=", "==", "<>", ">=", ">"),
		texts(" "),
		side(g.Right),
		texts("}"),
	)
}

// side: a later term's sign stands between it and the term ahead of it.
func side(terms []api.TermText) part {
	return func(w *writer) {
		for i, t := range terms {
			switch {
			case i == 0:
				w.take(term(t))
			case isBelow(t):
				w.take(texts(" - "), term(turned(t)))
			default:
				w.take(texts(" + "), term(t))
			}
		}
	}
}

func isMoney(t api.TermText) bool {
	return t.Pred == ""
}

// isBelow: whether what is told of the term has a - of its own.
func isBelow(t api.TermText) bool {
	if isMoney(t) {
		return t.Value < 0
	}
	return t.Coef < 0
}

// turned: the term with the other sign. The least int stays what it is, below 0, and has no form.
func turned(t api.TermText) api.TermText {
	t.Coef, t.Value = -t.Coef, -t.Value
	return t
}

func term(t api.TermText) part {
	if isMoney(t) {
		return amount(t.Value)
	}
	return row(
		only(t.Coef != 1, row(integer(t.Coef), texts("*"))),
		name(t.Pred),
		inBrackets(t.Args),
	)
}
