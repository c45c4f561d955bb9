package printer

import "lexprior/api"

func statute(s api.Statute) part {
	return row(
		only(s.Title != "", line(texts(`statute "`, s.Title, `"`))),
		lines(s.Kinds, kind),
		lines(s.Members, member),
		lines(s.Preds, pred),
		lines(s.Classes, class),
		lines(s.Sources, source),
		lines(s.Rules, rule),
		lines(s.Excepts, exception),
		lines(s.Totals, total),
	)
}

func kind(text string) part {
	return texts("kind ", text)
}

func member(m api.MemberText) part {
	return texts("member ", m.Name, " : ", m.Kind)
}

func pred(p api.PredText) part {
	return row(
		oneOf(p.Sort, "pred ", "number ", "amount "),
		name(p.Name),
		inBrackets(p.Kinds),
		only(p.Sort == api.SortAmount, row(texts(" : "), listed(p.Values, amount))),
	)
}

func class(all []string) part {
	return row(texts("class "), names(all))
}

func source(s api.SourceText) part {
	return row(texts("source ", s.Name, " rank "), integer(int64(s.Rank)))
}

func exception(e api.Exception) part {
	return texts("exception ", e.Over, " to ", e.Under)
}

func total(t api.TotalText) part {
	return row(
		texts("total ", t.Name, "(", t.Kind, ") : "),
		names(t.Preds),
		only(t.HasCap, row(texts(" cap "), amount(t.Cap))),
	)
}
