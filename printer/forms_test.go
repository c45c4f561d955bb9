package printer_test

import (
	"testing"

	"lexprior/api"
	"lexprior/money"
	"lexprior/printer"
)

func printed(t *testing.T, s api.Statute, want string) {
	t.Helper()
	if form, errno := printer.Print(s); form != want || errno != api.OK {
		t.Errorf("P6.1: Print(%+v): %q, %d, want %q", s, form, errno, want)
	}
}

func TestNothing(t *testing.T) {
	printed(t, api.Statute{}, "")
	printed(t, api.Statute{Kinds: []string{}, Members: []api.MemberText{}, Preds: []api.PredText{}, Classes: [][]string{}, Sources: []api.SourceText{}, Rules: []api.RuleText{}, Excepts: []api.Exception{}, Totals: []api.TotalText{}}, "")
}

func TestTitles(t *testing.T) {
	for _, title := range []string{"Help", " a  b ", "# . kind a.", "é\x00\xff", "\r\t", "'", "\\n"} {
		printed(t, api.Statute{Title: title}, "statute \""+title+"\".\n")
	}
}

func TestItems(t *testing.T) {
	two := []string{"person", "flat"}
	printed(t, api.Statute{Kinds: two}, "kind person.\nkind flat.\n")
	printed(t, api.Statute{Members: []api.MemberText{{Name: "anna", Kind: "person"}, {Name: "ben", Kind: "person"}, {Name: "f", Kind: "flat"}}}, "member anna : person.\nmember ben : person.\nmember f : flat.\n")
	printed(t, api.Statute{Classes: [][]string{{"a", "b"}, {"c", "d", "e"}}}, "class a, b.\nclass c, d, e.\n")
	printed(t, api.Statute{Sources: []api.SourceText{{Name: "act"}, {Name: "b", Rank: 7}, {Name: "c", Rank: 1000}}}, "source act rank 0.\nsource b rank 7.\nsource c rank 1000.\n")
	printed(t, api.Statute{Excepts: []api.Exception{{Over: "a", Under: "b"}, {Over: "b", Under: "b"}}}, "exception a to b.\nexception b to b.\n")
	printed(t, api.Statute{Totals: []api.TotalText{{Name: "all", Kind: "person", Preds: two}}}, "total all(person) : person, flat.\n")
	printed(t, api.Statute{Totals: []api.TotalText{{Name: "all", Kind: "person", Preds: two[:1], HasCap: true}, {Name: "b", Kind: "k", Preds: two, HasCap: true, Cap: -1050}}}, "total all(person) : person cap 0.\ntotal b(k) : person, flat cap -10.50.\n")
}

func TestPredicates(t *testing.T) {
	one, empty := []string{"person"}, []string{}
	four := []string{"person", "flat", "a", "b"}
	printed(t, api.Statute{Preds: []api.PredText{
		{Name: "p", Sort: api.SortPlain}, {Name: "p", Sort: api.SortPlain, Kinds: one}, {Name: "p", Sort: api.SortPlain, Kinds: four, Values: []api.Money{}},
		{Name: "n", Sort: api.SortNumber, Kinds: empty}, {Name: "n", Sort: api.SortNumber, Kinds: one}, {Name: "n", Sort: api.SortNumber, Kinds: four},
		{Name: "a", Sort: api.SortAmount, Values: []api.Money{0}}, {Name: "a", Sort: api.SortAmount, Kinds: one, Values: []api.Money{1000, -2050}}, {Name: "a", Sort: api.SortAmount, Kinds: four, Values: []api.Money{money.Most, -money.Most, 5}},
	}}, `pred p.
pred p(person).
pred p(person, flat, a, b).
number n.
number n(person).
number n(person, flat, a, b).
amount a : 0.
amount a(person) : 10, -20.50.
amount a(person, flat, a, b) : 10000000000000, -10000000000000, 0.05.
`)
}

// TestOrder: of the items, whatever their names.
func TestOrder(t *testing.T) {
	printed(t, api.Statute{
		Totals:  []api.TotalText{{Name: "a", Kind: "k", Preds: []string{"p"}}},
		Excepts: []api.Exception{{Over: "b", Under: "c"}},
		Rules:   []api.RuleText{{Name: "c", Source: "s", At: 1, Arrow: api.Strict, Head: api.LitText{Pred: "p"}}},
		Sources: []api.SourceText{{Name: "d", Rank: 1}},
		Classes: [][]string{{"e", "e"}},
		Preds:   []api.PredText{{Name: "g", Sort: api.SortNumber}, {Name: "f", Sort: api.SortPlain}},
		Members: []api.MemberText{{Name: "h", Kind: "k"}},
		Kinds:   []string{"i", "a"},
		Title:   "t",
	}, `statute "t".
kind i.
kind a.
member h : k.
number g.
pred f.
class e, e.
source d rank 1.
rule c of s at 0001-01-01 : -> p.
exception b to c.
total a(k) : p.
`)
}

func TestRules(t *testing.T) {
	p := api.LitText{Pred: "p"}
	lit := api.PremiseText{Kind: api.PremiseLit, Lit: api.LitText{Neg: true, Pred: "old", Args: []string{"X"}}}
	unlike := api.PremiseText{Kind: api.PremiseUnlike, A: "X", B: "anna"}
	other := api.PremiseText{Kind: api.PremiseUnlike, A: "ben", B: "Y"}
	guard := api.PremiseText{Kind: api.PremiseGuard, Guard: api.GuardText{Left: []api.TermText{{Value: 500}}, Op: api.OpMost, Right: []api.TermText{{Coef: 1, Pred: "n"}}}}
	for _, each := range []struct {
		rule api.RuleText
		want string
	}{
		{api.RuleText{At: 1, Arrow: api.Strict, Head: p}, "at 0001-01-01 : -> p."},
		{api.RuleText{At: 1, Arrow: api.Defeasible, Head: p, Body: []api.PremiseText{}}, "at 0001-01-01 : => p."},
		{api.RuleText{At: 3652059, Arrow: api.Defeater, Head: p}, "at 9999-12-31 : ~> p."},
		{api.RuleText{At: 730606, Until: 730971, Arrow: api.Defeater, Head: p}, "at 2001-05-01 until 2002-05-01 : ~> p."},
		{api.RuleText{At: 730606, Until: 1, Arrow: api.Strict, Head: p}, "at 2001-05-01 until 0001-01-01 : -> p."},
		{api.RuleText{At: 1, Body: []api.PremiseText{lit}, Arrow: api.Strict, Head: lit.Lit}, "at 0001-01-01 : -old(X) -> -old(X)."},
		{api.RuleText{At: 1, Body: []api.PremiseText{unlike}, Arrow: api.Strict, Head: p}, "at 0001-01-01 : X != anna -> p."},
		{api.RuleText{At: 1, Body: []api.PremiseText{guard}, Arrow: api.Strict, Head: p}, "at 0001-01-01 : {5 <= n} -> p."},
		{api.RuleText{At: 1, Until: 2, Body: []api.PremiseText{guard, lit, other, unlike, guard}, Arrow: api.Defeasible, Head: p}, "at 0001-01-01 until 0001-01-02 : {5 <= n}, -old(X), ben != Y, X != anna, {5 <= n} => p."},
	} {
		each.rule.Name, each.rule.Source = "r1", "act"
		want := "rule r1 of act " + each.want
		printed(t, api.Statute{Rules: []api.RuleText{each.rule}}, want+"\n")
		if form, errno := printer.Rule(each.rule); form != want || errno != api.OK {
			t.Errorf("P6.2: Rule(%+v): %q, %d, want %q", each.rule, form, errno, want)
		}
	}
}

func TestLiterals(t *testing.T) {
	for _, each := range []struct {
		literal api.LitText
		want    string
	}{
		{api.LitText{Pred: "p"}, "p"},
		{api.LitText{Pred: "p", Args: []string{}}, "p"},
		{api.LitText{Neg: true, Pred: "p"}, "-p"},
		{api.LitText{Pred: "p", Args: []string{"X"}}, "p(X)"},
		{api.LitText{Pred: "p", Args: []string{"X", "anna", "Y_1", "b"}}, "p(X, anna, Y_1, b)"},
		{api.LitText{Pred: "p", HasValue: true}, "p = 0"},
		{api.LitText{Pred: "p", HasValue: true, Value: -500}, "p = -5"},
		{api.LitText{Pred: "p", HasValue: true, Value: -5}, "p = -0.05"},
		{api.LitText{Neg: true, Pred: "p", Args: []string{"X", "X"}, HasValue: true, Value: money.Most}, "-p(X, X) = 10000000000000"},
		{api.LitText{Neg: true, Pred: "p", Args: []string{"anna"}, HasValue: true, Value: -money.Most}, "-p(anna) = -10000000000000"},
	} {
		if form, errno := printer.Literal(each.literal); form != each.want || errno != api.OK {
			t.Errorf("P6.2: Literal(%+v): %q, %d, want %q", each.literal, form, errno, each.want)
		}
	}
}

func cents(m api.Money) api.TermText {
	return api.TermText{Value: m}
}

func times(coef int64, args ...string) api.TermText {
	return api.TermText{Coef: coef, Pred: "n", Args: args}
}

func sum(terms ...api.TermText) []api.TermText {
	return terms
}

func guarded(t *testing.T, g api.GuardText, want string) {
	t.Helper()
	if form, errno := printer.Guard(g); form != want || errno != api.OK {
		t.Errorf("P6.2: Guard(%+v): %q, %d, want %q", g, form, errno, want)
	}
}

func TestOps(t *testing.T) {
	for i, text := range []string{"<", "<=", "==", "<>", ">=", ">"} {
		guarded(t, api.GuardText{Left: sum(times(1)), Op: api.OpLess + api.Op(i), Right: sum(cents(0))}, "{n "+text+" 0}")
	}
	guarded(t, api.GuardText{Left: sum(times(1)), Op: api.OpMore, Right: sum(cents(0))}, "{n > 0}")
}

// TestSides: each stands on the left and on the right.
func TestSides(t *testing.T) {
	for _, each := range []struct {
		terms []api.TermText
		want  string
	}{
		{sum(cents(0)), "0"},
		{sum(cents(100)), "1"},
		{sum(cents(-1)), "-0.01"},
		{sum(cents(-100)), "-1"},
		{sum(cents(money.Most)), "10000000000000"},
		{sum(cents(-money.Most)), "-10000000000000"},
		{sum(times(1)), "n"},
		{sum(times(2, "X")), "2*n(X)"},
		{sum(times(1000, "X", "anna")), "1000*n(X, anna)"},
		{sum(cents(0), cents(0)), "0 + 0"},
		{sum(cents(-100), cents(-100)), "-1 - 1"},
		{sum(cents(-100), cents(100)), "-1 + 1"},
		{sum(cents(1), cents(-1), cents(1)), "0.01 - 0.01 + 0.01"},
		{sum(times(1), times(-1), times(1)), "n - n + n"},
		{sum(times(1), times(-2), times(2)), "n - 2*n + 2*n"},
		{sum(times(3, "X"), times(-1000, "X"), times(1000, "Y", "a")), "3*n(X) - 1000*n(X) + 1000*n(Y, a)"},
		{sum(times(1), cents(-money.Most), cents(money.Most), times(-1, "a", "b", "c", "d")), "n - 10000000000000 + 10000000000000 - n(a, b, c, d)"},
		{sum(cents(1), cents(2), cents(3), cents(4), cents(5), cents(6), cents(7), cents(8)), "0.01 + 0.02 + 0.03 + 0.04 + 0.05 + 0.06 + 0.07 + 0.08"},
	} {
		guarded(t, api.GuardText{Left: each.terms, Op: api.OpLess, Right: sum(cents(0))}, "{"+each.want+" < 0}")
		guarded(t, api.GuardText{Left: sum(times(7)), Op: api.OpLeast, Right: each.terms}, "{7*n >= "+each.want+"}")
		guarded(t, api.GuardText{Left: each.terms, Op: api.OpUnequal, Right: each.terms}, "{"+each.want+" <> "+each.want+"}")
	}
}
