package printer_test

import (
	"math"
	"strings"
	"testing"

	"lexprior/api"
	"lexprior/money"
	"lexprior/printer"
)

func refused(t *testing.T, s api.Statute, want api.Errno) {
	t.Helper()
	if form, errno := printer.Print(s); form != "" || errno != want {
		t.Errorf("P6.1: Print(%.1000v): %.1000q, %d, want %d", s, form, errno, want)
	}
}

// long: a statute with a title that leaves no room for its form.
func long(s api.Statute) api.Statute {
	s.Title = strings.Repeat("x", api.MaxText)
	return s
}

// longBehind: the same with names behind whatever else there is.
func longBehind(s api.Statute) api.Statute {
	s.Totals = append(s.Totals[:len(s.Totals):len(s.Totals)], api.TotalText{Name: strings.Repeat("x", api.MaxText)})
	return s
}

func withRule(change func(r *api.RuleText)) api.Statute {
	r := api.RuleText{Name: "r", Source: "s", At: 1, Arrow: api.Strict, Head: api.LitText{Pred: "p"}}
	change(&r)
	return api.Statute{Rules: []api.RuleText{r}}
}

func withHead(l api.LitText) api.Statute {
	return withRule(func(r *api.RuleText) { r.Head = l })
}

func withPremise(p api.PremiseText) api.Statute {
	return withRule(func(r *api.RuleText) { r.Body = []api.PremiseText{p} })
}

func withLiteral(l api.LitText) api.Statute {
	return withPremise(api.PremiseText{Kind: api.PremiseLit, Lit: l})
}

func withGuard(g api.GuardText) api.Statute {
	return withPremise(api.PremiseText{Kind: api.PremiseGuard, Guard: g})
}

func withSides(left, right []api.TermText) api.Statute {
	return withGuard(api.GuardText{Left: left, Op: api.OpLess, Right: right})
}

func withPred(p api.PredText) api.Statute {
	return api.Statute{Preds: []api.PredText{p}}
}

func withTotal(t api.TotalText) api.Statute {
	return api.Statute{Totals: []api.TotalText{t}}
}

// badMoney: what money.Print refuses.
var badMoney = []api.Money{money.Most + 1, -money.Most - 1, math.MaxInt64, math.MinInt64, math.MinInt64 + 1}

// untold: statutes in which something has no form.
func untold() []api.Statute {
	var all []api.Statute
	names := []string{"p"}
	one := sum(cents(1))
	for _, m := range badMoney {
		all = append(all,
			withPred(api.PredText{Name: "p", Sort: api.SortAmount, Values: []api.Money{1, m}}),
			withHead(api.LitText{Pred: "p", HasValue: true, Value: m}),
			withLiteral(api.LitText{Pred: "p", HasValue: true, Value: m}),
			withTotal(api.TotalText{Name: "t", Kind: "k", Preds: names, HasCap: true, Cap: m}),
			withSides(sum(cents(m)), one), withSides(one, sum(cents(m))),
			withSides(sum(cents(1), cents(m)), one), withSides(one, sum(times(1), cents(m))))
	}
	for _, day := range []api.Date{-1, 3652060, math.MaxInt, math.MinInt} {
		all = append(all, withRule(func(r *api.RuleText) { r.At = day }), withRule(func(r *api.RuleText) { r.Until = day }))
	}
	all = append(all, withRule(func(r *api.RuleText) { r.At = 0 }))
	for _, number := range []int{0, -1, math.MaxInt, math.MinInt} {
		all = append(all,
			withPred(api.PredText{Name: "p", Sort: api.Sort(number)}),
			withRule(func(r *api.RuleText) { r.Arrow = api.Arrow(number) }),
			withPremise(api.PremiseText{Kind: api.PremiseKind(number), A: "a", B: "b", Lit: api.LitText{Pred: "p"}}),
			withGuard(api.GuardText{Left: one, Op: api.Op(number), Right: one}))
	}
	all = append(all,
		withPred(api.PredText{Name: "p", Sort: api.SortAmount + 1}),
		withRule(func(r *api.RuleText) { r.Arrow = api.Defeater + 1 }),
		withPremise(api.PremiseText{Kind: api.PremiseUnlike + 1, A: "a", B: "b"}),
		withGuard(api.GuardText{Left: one, Op: api.OpMore + 1, Right: one}))
	for _, below := range []int64{-1, -2, -1000, math.MinInt64} {
		all = append(all, api.Statute{Sources: []api.SourceText{{Name: "s", Rank: int(below)}}}, withSides(sum(times(below)), one), withSides(one, sum(times(below))))
	}
	return append(all, withSides(sum(times(1), times(math.MinInt64)), one), withSides(one, sum(times(1), cents(1), times(math.MinInt64))))
}

// TestUntold: what has no form is told ahead of the length, wherever it stands.
func TestUntold(t *testing.T) {
	for _, s := range untold() {
		refused(t, s, api.ErrForm)
		refused(t, long(s), api.ErrForm)
		refused(t, longBehind(s), api.ErrForm)
		s.Kinds = []string{"no name"}
		refused(t, s, api.ErrForm)
	}
}

// unread: statutes that can be told, but that Parse does not read so.
func unread() []api.Statute {
	one, names := sum(cents(1)), []string{"p"}
	all := []api.Statute{
		{Classes: [][]string{nil}}, {Classes: [][]string{{"a"}}}, {Classes: [][]string{{"a", "b"}, {}}},
		{Sources: []api.SourceText{{Name: "a", Rank: 1001}}}, {Sources: []api.SourceText{{Name: "a", Rank: math.MaxInt}}},
		withPred(api.PredText{Name: "p", Sort: api.SortAmount}), withPred(api.PredText{Name: "p", Sort: api.SortAmount, Kinds: names, Values: []api.Money{}}),
		withPred(api.PredText{Name: "p", Sort: api.SortPlain, Values: []api.Money{1}}), withPred(api.PredText{Name: "p", Sort: api.SortNumber, Values: []api.Money{1}}),
		withTotal(api.TotalText{Name: "t", Kind: "k"}), withTotal(api.TotalText{Name: "t", Preds: names}), withTotal(api.TotalText{Name: "t", Kind: "k", Preds: names, Cap: 1}),
		withSides(nil, one), withSides(one, nil), withSides(nil, nil), withGuard(api.GuardText{Op: api.OpLess}),
		withSides(sum(times(0)), one), withSides(one, sum(times(1), times(0))), withSides(sum(times(1001)), one), withSides(sum(times(1), times(-1001)), one), withSides(sum(times(math.MaxInt64)), one),
		withSides(sum(api.TermText{Coef: 1, Value: 1}), one), withSides(sum(api.TermText{Coef: -1, Value: 1}), one), withSides(sum(api.TermText{Value: 1, Args: names}), one), withSides(sum(api.TermText{Coef: 1, Pred: "p", Value: 1}), one),
		withHead(api.LitText{}), withHead(api.LitText{Pred: "p", Value: 1}), withLiteral(api.LitText{}), withLiteral(api.LitText{Pred: "p", Value: -1}),
		withPremise(api.PremiseText{Kind: api.PremiseUnlike}), withPremise(api.PremiseText{Kind: api.PremiseUnlike, A: "a"}), withPremise(api.PremiseText{Kind: api.PremiseUnlike, B: "a"}),
		withPremise(api.PremiseText{Kind: api.PremiseUnlike, A: "a", B: "b", Lit: api.LitText{Neg: true}}), withPremise(api.PremiseText{Kind: api.PremiseUnlike, A: "a", B: "b", Guard: api.GuardText{Op: api.OpLess}}),
		withPremise(api.PremiseText{Kind: api.PremiseUnlike, A: "a", B: "b", Guard: api.GuardText{Left: one}}), withPremise(api.PremiseText{Kind: api.PremiseUnlike, A: "a", B: "b", Guard: api.GuardText{Right: one}}),
		withPremise(api.PremiseText{Kind: api.PremiseLit, Lit: api.LitText{Pred: "p"}, A: "a"}), withPremise(api.PremiseText{Kind: api.PremiseLit, Lit: api.LitText{Pred: "p"}, B: "a"}),
		withPremise(api.PremiseText{Kind: api.PremiseGuard, Guard: api.GuardText{Left: one, Op: api.OpLess, Right: one}, Lit: api.LitText{Pred: "p"}}),
	}
	for _, m := range badMoney {
		all = append(all,
			withPred(api.PredText{Name: "p", Sort: api.SortPlain, Values: []api.Money{m}}), withPred(api.PredText{Name: "p", Sort: api.SortNumber, Values: []api.Money{m}}),
			withHead(api.LitText{Pred: "p", Value: m}), withLiteral(api.LitText{Pred: "p", Value: m}),
			withTotal(api.TotalText{Name: "t", Kind: "k", Preds: names, Cap: m}),
			withSides(sum(api.TermText{Coef: 1, Pred: "p", Value: m}), one), withSides(one, sum(times(1), api.TermText{Coef: -1, Pred: "p", Value: m})),
			withPremise(api.PremiseText{Kind: api.PremiseUnlike, A: "a", B: "b", Lit: api.LitText{Pred: "p", HasValue: true, Value: m}}),
			withPremise(api.PremiseText{Kind: api.PremiseLit, Lit: api.LitText{Pred: "p"}, Guard: api.GuardText{Left: sum(cents(m))}}))
	}
	return all
}

// TestUnread: what is told, but not read so, is told behind the length.
func TestUnread(t *testing.T) {
	for _, s := range unread() {
		refused(t, s, api.ErrForm)
		refused(t, long(s), api.ErrLong)
		refused(t, longBehind(s), api.ErrLong)
	}
}

// named: statutes with a name in each place that has one.
func named(name string) []api.Statute {
	good, both := []string{"p", "q"}, []string{"p", name}
	one := sum(cents(1))
	return []api.Statute{
		{Kinds: []string{name}}, {Members: []api.MemberText{{Name: name, Kind: "k"}}}, {Members: []api.MemberText{{Name: "a", Kind: name}}},
		withPred(api.PredText{Name: name, Sort: api.SortPlain}), withPred(api.PredText{Name: name, Sort: api.SortNumber}), withPred(api.PredText{Name: name, Sort: api.SortAmount, Values: []api.Money{1}}), withPred(api.PredText{Name: "p", Sort: api.SortPlain, Kinds: both}),
		{Classes: [][]string{both}}, {Sources: []api.SourceText{{Name: name, Rank: 1}}}, {Excepts: []api.Exception{{Over: name, Under: "a"}}}, {Excepts: []api.Exception{{Over: "a", Under: name}}},
		withTotal(api.TotalText{Name: name, Kind: "k", Preds: good}), withTotal(api.TotalText{Name: "t", Kind: name, Preds: good}), withTotal(api.TotalText{Name: "t", Kind: "k", Preds: both}),
		withRule(func(r *api.RuleText) { r.Name = name }), withRule(func(r *api.RuleText) { r.Source = name }),
		withHead(api.LitText{Pred: name}), withLiteral(api.LitText{Pred: name}), withLiteral(api.LitText{Neg: true, Pred: name, Args: good}),
		withSides(sum(api.TermText{Coef: 2, Pred: name}), one),
	}
}

// argued: statutes with an argument in each place that has one.
func argued(argument string) []api.Statute {
	both := []string{"p", argument}
	return []api.Statute{
		withHead(api.LitText{Pred: "p", Args: both}), withLiteral(api.LitText{Pred: "p", Args: both}), withSides(sum(times(1, both...)), sum(cents(1))),
		withPremise(api.PremiseText{Kind: api.PremiseUnlike, A: argument, B: "a"}), withPremise(api.PremiseText{Kind: api.PremiseUnlike, A: "a", B: argument}),
	}
}

var grammarWords = strings.Fields("statute kind member pred number amount class source rank rule of at until exception to total cap")

func TestNames(t *testing.T) {
	bad := []string{"", " ", "5", "a b", " a", "a ", "a\n", "a#b", "#", "a.", "a.\nkind b", "a, b", "a(b)", "é", "_a", "a-b", "aB", "\"a\"", "\x00", "\xff", "a" + strings.Repeat("b", api.MaxName)}
	for _, name := range append(bad, grammarWords...) {
		for _, s := range append(named(name), argued(name)...) {
			refused(t, s, api.ErrForm)
			refused(t, long(s), api.ErrLong)
		}
	}
	for _, name := range []string{"X", "Xy"} {
		for _, s := range named(name) {
			refused(t, s, api.ErrForm)
		}
	}
	for _, name := range []string{"a", "kind_", "ofs", "a_1", "z" + strings.Repeat("b", api.MaxName-1)} {
		for _, s := range append(named(name), argued(name)...) {
			if form, errno := printer.Print(s); errno != api.OK || !strings.Contains(form, name) {
				t.Errorf("P6.1: Print(%+v): %q, %d", s, form, errno)
			}
		}
	}
	for _, s := range argued("X" + strings.Repeat("b", api.MaxName-1)) {
		if _, errno := printer.Print(s); errno != api.OK {
			t.Errorf("P6.1: Print(%+v): %d", s, errno)
		}
	}
}

func TestTitlesThatNoQuoteSays(t *testing.T) {
	for _, title := range []string{"\"", "a\"", "a\"b", "\"a", "a\nb", "\n", "a\". kind b. # \"", "a\".\nstatute \"b"} {
		refused(t, api.Statute{Title: title}, api.ErrForm)
	}
}

func repeated[T any](thing T, count int) []T {
	all := make([]T, count)
	for i := range all {
		all[i] = thing
	}
	return all
}

// TestLimitsOfLists: a list up to its limit is told, a longer one is not.
func TestLimitsOfLists(t *testing.T) {
	p, one := api.LitText{Pred: "p"}, sum(cents(1))
	r := api.RuleText{Name: "r", Source: "s", At: 1, Arrow: api.Strict, Head: p}
	for _, each := range []struct {
		most int
		of   func(count int) api.Statute
	}{
		{16, func(n int) api.Statute { return api.Statute{Kinds: repeated("a", n)} }},
		{64, func(n int) api.Statute {
			return api.Statute{Members: repeated(api.MemberText{Name: "a", Kind: "b"}, n)}
		}},
		{256, func(n int) api.Statute {
			return api.Statute{Preds: repeated(api.PredText{Name: "a", Sort: api.SortNumber}, n)}
		}},
		{4, func(n int) api.Statute {
			return withPred(api.PredText{Name: "a", Sort: api.SortPlain, Kinds: repeated("a", n)})
		}},
		{64, func(n int) api.Statute {
			return withPred(api.PredText{Name: "a", Sort: api.SortAmount, Values: repeated(api.Money(1), n)})
		}},
		{64, func(n int) api.Statute { return api.Statute{Classes: repeated([]string{"a", "b"}, n)} }},
		{16, func(n int) api.Statute { return api.Statute{Classes: [][]string{repeated("a", n)}} }},
		{64, func(n int) api.Statute { return api.Statute{Sources: repeated(api.SourceText{Name: "a"}, n)} }},
		{512, func(n int) api.Statute { return api.Statute{Rules: repeated(r, n)} }},
		{16, func(n int) api.Statute {
			return withRule(func(r *api.RuleText) { r.Body = repeated(api.PremiseText{Kind: api.PremiseLit, Lit: p}, n) })
		}},
		{4, func(n int) api.Statute { return withLiteral(api.LitText{Pred: "a", Args: repeated("X", n)}) }},
		{4, func(n int) api.Statute { return withHead(api.LitText{Pred: "a", Args: repeated("b", n)}) }},
		{4, func(n int) api.Statute { return withSides(sum(times(2, repeated("X", n)...)), one) }},
		{8, func(n int) api.Statute { return withSides(repeated(times(1), n), one) }},
		{8, func(n int) api.Statute { return withSides(one, repeated(cents(1), n)) }},
		{512, func(n int) api.Statute {
			return api.Statute{Excepts: repeated(api.Exception{Over: "a", Under: "b"}, n)}
		}},
		{64, func(n int) api.Statute {
			return api.Statute{Totals: repeated(api.TotalText{Name: "a", Kind: "b", Preds: []string{"c"}}, n)}
		}},
		{16, func(n int) api.Statute {
			return withTotal(api.TotalText{Name: "a", Kind: "b", Preds: repeated("c", n)})
		}},
	} {
		if _, errno := printer.Print(each.of(each.most)); errno != api.OK {
			t.Errorf("P6.1: a list of %d: %d: %.200v", each.most, errno, each.of(each.most))
		}
		refused(t, each.of(each.most+1), api.ErrForm)
		refused(t, each.of(65536), api.ErrLong)
	}
}
