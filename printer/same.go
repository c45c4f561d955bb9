package printer

import (
	"slices"

	"lexprior/api"
)

// sameStatute: whether they differ in nothing; a nil list and an empty one are one.
func sameStatute(a, b api.Statute) bool {
	return a.Title == b.Title &&
		slices.Equal(a.Kinds, b.Kinds) &&
		slices.Equal(a.Members, b.Members) &&
		slices.EqualFunc(a.Preds, b.Preds, samePred) &&
		slices.EqualFunc(a.Classes, b.Classes, slices.Equal[[]string]) &&
		slices.Equal(a.Sources, b.Sources) &&
		slices.EqualFunc(a.Rules, b.Rules, sameRule) &&
		slices.Equal(a.Excepts, b.Excepts) &&
		slices.EqualFunc(a.Totals, b.Totals, sameTotal)
}

func samePred(a, b api.PredText) bool {
	return a.Name == b.Name && a.Sort == b.Sort && slices.Equal(a.Kinds, b.Kinds) && slices.Equal(a.Values, b.Values)
}

func sameTotal(a, b api.TotalText) bool {
	return a.Name == b.Name && a.Kind == b.Kind && slices.Equal(a.Preds, b.Preds) && a.HasCap == b.HasCap && a.Cap == b.Cap
}

func sameRule(a, b api.RuleText) bool {
	return a.Name == b.Name && a.Source == b.Source && a.At == b.At && a.Until == b.Until && a.Arrow == b.Arrow &&
		slices.EqualFunc(a.Body, b.Body, samePremise) && sameLiteral(a.Head, b.Head)
}

func samePremise(a, b api.PremiseText) bool {
	return a.Kind == b.Kind && sameLiteral(a.Lit, b.Lit) && sameGuard(a.Guard, b.Guard) && a.A == b.A && a.B == b.B
}

func sameLiteral(a, b api.LitText) bool {
	return a.Neg == b.Neg && a.Pred == b.Pred && slices.Equal(a.Args, b.Args) && a.HasValue == b.HasValue && a.Value == b.Value
}

func sameGuard(a, b api.GuardText) bool {
	return slices.EqualFunc(a.Left, b.Left, sameTerm) && a.Op == b.Op && slices.EqualFunc(a.Right, b.Right, sameTerm)
}

func sameTerm(a, b api.TermText) bool {
	return a.Coef == b.Coef && a.Pred == b.Pred && slices.Equal(a.Args, b.Args) && a.Value == b.Value
}
