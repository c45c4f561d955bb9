package resolve_test

import (
	"math"
	"slices"
	"strings"
	"testing"

	"lexprior/api"
	"lexprior/money"
)

// wrong is something done to an item of house, and the fault that it then has.
type wrong struct {
	errno api.Errno
	spoil func(s *api.Statute)
}

// item is one of house, and all that can be wrong about it, in the chapter's order. What stands ahead in that order is told ahead.
type item struct {
	name   string
	number int
	wrongs []wrong
}

// each: one thing that can be wrong, with several values.
func each[T any](errno api.Errno, spoil func(s *api.Statute, value T), values ...T) []wrong {
	var wrongs []wrong
	for _, value := range values {
		wrongs = append(wrongs, wrong{errno, func(s *api.Statute) { spoil(s, value) }})
	}
	return wrongs
}

func one(errno api.Errno, spoil func(s *api.Statute)) []wrong {
	return []wrong{{errno, spoil}}
}

var long = strings.Repeat("a", 33)

// noNames: what is no name; noArguments: what is no variable, either.
var (
	noNames     = []string{"", "A", "Ann", "X", "_a", "1", "a-b", "a b", " a", "aB", "é", "a\x00", "\xff", long}
	noArguments = []string{"", "_X", "1", "X-", "X Y", "aB", "É", "X\x00", "\xff", long, "X" + long[1:]}
)

// naming: what can be wrong about what an item is called.
func naming(name func(s *api.Statute) *string, twice string) []wrong {
	put := func(s *api.Statute, text string) { *name(s) = text }
	return slices.Concat(each(api.ErrSymbol, put, noNames...), each(api.ErrTwice, put, twice))
}

func kindWrongs() []wrong {
	return naming(func(s *api.Statute) *string { return &s.Kinds[1] }, "person")
}

func memberWrongs() []wrong {
	m := func(s *api.Statute) *api.MemberText { return &s.Members[3] }
	return slices.Concat(
		naming(func(s *api.Statute) *string { return &m(s).Name }, "ben"),
		each(api.ErrKind, func(s *api.Statute, kind string) { m(s).Kind = kind }, "", "none", "ann", "old", "act", "ra", "all", "Person"),
	)
}

// predWrongs: of help, the last predicate.
func predWrongs() []wrong {
	p := func(s *api.Statute) *api.PredText { return &s.Preds[14] }
	values := func(s *api.Statute, values []api.Money) { p(s).Values = values }
	return slices.Concat(
		naming(func(s *api.Statute) *string { return &p(s).Name }, "old"),
		each(api.ErrSort, func(s *api.Statute, sort api.Sort) { p(s).Sort = sort }, 0, 4, -1, math.MaxInt, math.MinInt),
		each(api.ErrCount, func(s *api.Statute, many int) {
			p(s).Kinds = append(p(s).Kinds, slices.Repeat([]string{"flat"}, many)...)
		}, 4, 70),
		each(api.ErrCount, func(s *api.Statute, many int) {
			for n := range many {
				p(s).Values = append(p(s).Values, api.Money(3000+n))
			}
		}, 65, 300),
		each(api.ErrKind, func(s *api.Statute, kind string) { p(s).Kinds = []string{"person", kind, "flat"} }, "", "none", "ann", "old", "Person"),
		each(api.ErrKind, func(s *api.Statute, kind string) { p(s).Kinds = []string{kind} }, "", "none", "ann", "old", "Person"),
		each(api.ErrValue, values, nil, []api.Money{}, []api.Money{1, money.Most + 1}, []api.Money{math.MaxInt64, 1}, []api.Money{1, 2, -1}, []api.Money{-money.Most - 1}, []api.Money{math.MinInt64}, []api.Money{1, 2, 1}, []api.Money{0, 5, 7, 7}),
		each(api.ErrValue, func(s *api.Statute, sort api.Sort) { p(s).Sort = sort }, api.SortPlain, api.SortNumber),
	)
}

func classWrongs() []wrong {
	put := func(n int) func(s *api.Statute, name string) {
		return func(s *api.Statute, name string) { s.Classes[1][n] = name }
	}
	return slices.Concat(
		each(api.ErrCount, func(s *api.Statute, names []string) { s.Classes[1] = names },
			nil, []string{}, []string{"single"}, []string{"none"}, slices.Repeat([]string{"single"}, 17), slices.Repeat([]string{"none"}, 99)),
		each(api.ErrName, put(0), "", "none", "Old", "person", "ann", "act", "ra", "all"),
		each(api.ErrSort, put(0), "income", "rate", "help"),
		each(api.ErrTwice, put(0), "old", "rich"),
		each(api.ErrName, put(1), "", "none", "Old", "person", "ann", "act", "ra", "all"),
		each(api.ErrSort, put(1), "income", "help", "rate", "both"), // of which the last two have other kinds
		each(api.ErrClass, put(1), "lives", "big", "rains"),
		each(api.ErrTwice, put(1), "single", "old", "rich"),
	)
}

func sourceWrongs() []wrong {
	return slices.Concat(
		naming(func(s *api.Statute) *string { return &s.Sources[1].Name }, "decree"),
		each(api.ErrRange, func(s *api.Statute, rank int) { s.Sources[1].Rank = rank }, -1, 1001, math.MaxInt, math.MinInt),
	)
}

func exceptionWrongs() []wrong {
	names := []string{"", "none", "R", "person", "ann", "old", "act", "all"}
	return slices.Concat(
		each(api.ErrName, func(s *api.Statute, name string) { s.Excepts[1].Over = name }, names...),
		each(api.ErrName, func(s *api.Statute, name string) { s.Excepts[1].Under = name }, names...),
		one(api.ErrTwice, func(s *api.Statute) { s.Excepts[1] = s.Excepts[0] }),
	)
}

func totalWrongs() []wrong {
	total := func(s *api.Statute) *api.TotalText { return &s.Totals[1] }
	put := func(n int) func(s *api.Statute, name string) {
		return func(s *api.Statute, name string) { total(s).Preds[n] = name }
	}
	none := []string{"", "none", "Help", "person", "ann", "act", "ra", "all"}
	noAmounts := []string{"old", "income", "rains", "lives", "rate"}
	others := []string{"grant", "both", "bonus"}
	return slices.Concat(
		naming(func(s *api.Statute) *string { return &total(s).Name }, "some"),
		each(api.ErrKind, func(s *api.Statute, kind string) { total(s).Kind = kind }, "", "none", "ann", "Person", "help"),
		each(api.ErrCount, func(s *api.Statute, names []string) { total(s).Preds = names },
			nil, []string{}, slices.Repeat([]string{"help"}, 17), slices.Repeat([]string{"none"}, 99)),
		each(api.ErrName, put(0), none...),
		each(api.ErrSort, put(0), noAmounts...),
		each(api.ErrArity, put(0), others...),
		each(api.ErrName, put(1), none...),
		each(api.ErrSort, put(1), noAmounts...),
		each(api.ErrArity, put(1), others...),
		each(api.ErrTwice, put(1), "aid"),
		each(api.ErrOver, func(s *api.Statute, most api.Money) { total(s).HasCap, total(s).Cap = true, most }, -1, money.Most+1, -money.Most-1, math.MaxInt64, math.MinInt64),
		each(api.ErrArg, func(s *api.Statute, most api.Money) { total(s).HasCap, total(s).Cap = false, most }, 1, -1, money.Most+1, math.MaxInt64, math.MinInt64),
	)
}

// argumentWrongs: about the argument of a place; others are members of other kinds, or variables that stood ahead in such places.
func argumentWrongs(args func(s *api.Statute) []string, n int, others ...string) []wrong {
	put := func(s *api.Statute, arg string) { args(s)[n] = arg }
	return slices.Concat(
		each(api.ErrSymbol, put, noArguments...),
		each(api.ErrName, put, "nobody", "person", "old", "act", "ra", "all"),
		each(api.ErrKind, put, others...),
	)
}

// arityWrongs: an argument too much, too few, none.
func arityWrongs(args func(s *api.Statute) *[]string) []wrong {
	return slices.Concat(
		each(api.ErrArity, func(s *api.Statute, more string) { *args(s) = append(*args(s), more) }, "ann", "X", "", "nobody"),
		one(api.ErrArity, func(s *api.Statute) { *args(s) = (*args(s))[1:] }),
		one(api.ErrArity, func(s *api.Statute) { *args(s) = nil }),
		one(api.ErrArity, func(s *api.Statute) { *args(s) = slices.Repeat([]string{"X"}, 99) }),
	)
}

// nameWrongs: about the predicate of a literal.
func nameWrongs(l func(s *api.Statute) *api.LitText) []wrong {
	put := func(s *api.Statute, name string) { l(s).Pred = name }
	return slices.Concat(
		each(api.ErrName, put, "", "none", "Old", "X", "person", "ann", "act", "ra", "all"),
		each(api.ErrSort, put, "rate", "income", "rent"),
	)
}

// amountWrongs: about the value of an amount's literal.
func amountWrongs(l func(s *api.Statute) *api.LitText) []wrong {
	return slices.Concat(
		each(api.ErrSort, func(s *api.Statute, value api.Money) { l(s).HasValue, l(s).Value = false, value }, 0, 100, 1000, 77),
		each(api.ErrValue, func(s *api.Statute, value api.Money) { l(s).Value = value }, 0, 1, -100, 700, 500, 3000, money.Most+1, math.MinInt64),
	)
}

// plainWrongs: about the value that a plain literal has not.
func plainWrongs(l func(s *api.Statute) *api.LitText) []wrong {
	return slices.Concat(
		each(api.ErrSort, func(s *api.Statute, value api.Money) { l(s).HasValue, l(s).Value = true, value }, 0, 100, -1),
		each(api.ErrSort, func(s *api.Statute, value api.Money) { l(s).HasValue, l(s).Value = false, value }, 1, -1, math.MaxInt64, math.MinInt64),
	)
}

// last: the rule that all that is wrong about rules is done to.
func last(s *api.Statute) *api.RuleText {
	return &s.Rules[1]
}

// firstLiteralWrongs: of -both(X, home) = 1.
func firstLiteralWrongs() []wrong {
	l := func(s *api.Statute) *api.LitText { return &last(s).Body[0].Lit }
	args := func(s *api.Statute) []string { return l(s).Args }
	return slices.Concat(
		nameWrongs(l),
		arityWrongs(func(s *api.Statute) *[]string { return &l(s).Args }),
		argumentWrongs(args, 0, "home", "hut"),
		argumentWrongs(args, 1, "ann", "ben", "X"), // X stands ahead in this literal
		amountWrongs(l),
	)
}

// moneyWrongs: of -5, the first term on the left.
func moneyWrongs() []wrong {
	t := func(s *api.Statute) *api.TermText { return &last(s).Body[1].Guard.Left[0] }
	return slices.Concat(
		each(api.ErrGuard, func(s *api.Statute, coef int64) { t(s).Coef = coef }, 1, -1, 1000, math.MaxInt64, math.MinInt64),
		each(api.ErrGuard, func(s *api.Statute, args []string) { t(s).Args = args }, []string{"X"}, []string{""}, []string{"ann", "home"}),
		each(api.ErrOver, func(s *api.Statute, value api.Money) { t(s).Value = value }, money.Most+1, -money.Most-1, math.MaxInt64, math.MinInt64),
	)
}

// numberWrongs: of a term with a number's predicate.
func numberWrongs(t func(s *api.Statute) *api.TermText) []wrong {
	put := func(s *api.Statute, name string) { t(s).Pred = name }
	return slices.Concat(
		each(api.ErrName, put, "none", "Income", "X", "person", "ann", "act", "ra", "all"),
		each(api.ErrSort, put, "old", "help", "lives", "both", "rains"),
		each(api.ErrGuard, func(s *api.Statute, coef int64) { t(s).Coef = coef }, 0, 1001, -1001, math.MaxInt64, math.MinInt64),
		each(api.ErrGuard, func(s *api.Statute, value api.Money) { t(s).Value = value }, 1, -1, math.MaxInt64, math.MinInt64),
		arityWrongs(func(s *api.Statute) *[]string { return &t(s).Args }),
	)
}

// guardWrongs: of {-5 + 2*rent(X, F) < income(X) - 3*rent(ann, F)}, behind both(X, home).
func guardWrongs() []wrong {
	g := func(s *api.Statute) *api.GuardText { return &last(s).Body[1].Guard }
	rent := func(s *api.Statute) *api.TermText { return &g(s).Left[1] }
	income := func(s *api.Statute) *api.TermText { return &g(s).Right[0] }
	again := func(s *api.Statute) *api.TermText { return &g(s).Right[1] }
	sides := [][]api.TermText{nil, {}, make([]api.TermText, 9), make([]api.TermText, 99)}
	return slices.Concat(
		each(api.ErrGuard, func(s *api.Statute, op api.Op) { g(s).Op = op }, 0, 7, -1, math.MaxInt, math.MinInt),
		each(api.ErrGuard, func(s *api.Statute, side []api.TermText) { g(s).Left = side }, sides...),
		each(api.ErrGuard, func(s *api.Statute, side []api.TermText) { g(s).Right = side }, sides...),
		moneyWrongs(),
		numberWrongs(rent),
		argumentWrongs(func(s *api.Statute) []string { return rent(s).Args }, 0, "home", "hut"),
		argumentWrongs(func(s *api.Statute) []string { return rent(s).Args }, 1, "ann", "ben", "X"),
		numberWrongs(income),
		argumentWrongs(func(s *api.Statute) []string { return income(s).Args }, 0, "home", "hut", "F"),
		numberWrongs(again),
		argumentWrongs(func(s *api.Statute) []string { return again(s).Args }, 0, "home", "hut", "F"),
		argumentWrongs(func(s *api.Statute) []string { return again(s).Args }, 1, "ann", "ben", "X"),
	)
}

// unlikeWrongs: of X != G; which kinds they have is not asked.
func unlikeWrongs() []wrong {
	p := func(s *api.Statute) *api.PremiseText { return &last(s).Body[2] }
	return slices.Concat(
		each(api.ErrSymbol, func(s *api.Statute, arg string) { p(s).A = arg }, noArguments...),
		each(api.ErrName, func(s *api.Statute, arg string) { p(s).A = arg }, "nobody", "person", "old", "act"),
		each(api.ErrSymbol, func(s *api.Statute, arg string) { p(s).B = arg }, noArguments...),
		each(api.ErrName, func(s *api.Statute, arg string) { p(s).B = arg }, "nobody", "person", "old", "act"),
	)
}

// secondLiteralWrongs: of lives(ben, G).
func secondLiteralWrongs() []wrong {
	l := func(s *api.Statute) *api.LitText { return &last(s).Body[3].Lit }
	args := func(s *api.Statute) []string { return l(s).Args }
	return slices.Concat(
		nameWrongs(l),
		arityWrongs(func(s *api.Statute) *[]string { return &l(s).Args }),
		argumentWrongs(args, 0, "home", "hut", "F"),
		argumentWrongs(args, 1, "ann", "ben", "X"),
		plainWrongs(l),
	)
}

// headWrongs: of -help(Y) = 20.50.
func headWrongs() []wrong {
	l := func(s *api.Statute) *api.LitText { return &last(s).Head }
	return slices.Concat(
		nameWrongs(l),
		arityWrongs(func(s *api.Statute) *[]string { return &l(s).Args }),
		argumentWrongs(func(s *api.Statute) []string { return l(s).Args }, 0, "home", "hut", "F", "G"),
		amountWrongs(l),
	)
}

// otherWrongs: of the premise with this place, if it is of no kind.
func otherWrongs(n int) []wrong {
	return each(api.ErrArg, func(s *api.Statute, kind api.PremiseKind) { last(s).Body[n].Kind = kind }, 0, 4, -1, math.MaxInt, math.MinInt)
}

func ruleWrongs() []wrong {
	return slices.Concat(
		naming(func(s *api.Statute) *string { return &last(s).Name }, "ra"),
		each(api.ErrSource, func(s *api.Statute, source string) { last(s).Source = source }, "", "none", "Act", "person", "ann", "old", "ra", "all"),
		each(api.ErrDate, func(s *api.Statute, at api.Date) { last(s).At = at }, 0, -1, 3652060, math.MaxInt, math.MinInt),
		each(api.ErrDate, func(s *api.Statute, until api.Date) { last(s).Until = until }, -1, 3652060, math.MaxInt, math.MinInt),
		each(api.ErrOrder, func(s *api.Statute, until api.Date) { last(s).At, last(s).Until = 730606, until }, 1, 730605, 730606),
		each(api.ErrArg, func(s *api.Statute, arrow api.Arrow) { last(s).Arrow = arrow }, 0, 4, -1, math.MaxInt, math.MinInt),
		each(api.ErrCount, func(s *api.Statute, premises []api.PremiseText) { last(s).Body = append(last(s).Body, premises...) }, make([]api.PremiseText, 12), make([]api.PremiseText, 99)),
		otherWrongs(0), firstLiteralWrongs(),
		otherWrongs(1), guardWrongs(),
		otherWrongs(2), unlikeWrongs(),
		otherWrongs(3), secondLiteralWrongs(),
		otherWrongs(4),
		headWrongs(),
		one(api.ErrFree, func(s *api.Statute) { last(s).Body[2].A = "W" }),
		one(api.ErrFree, func(s *api.Statute) { last(s).Body[2].B = "W" }),
		one(api.ErrFree, func(s *api.Statute) { last(s).Body[4].A = "W" }),
		one(api.ErrFree, func(s *api.Statute) { last(s).Body[2].A, last(s).Body[4].B = "W", "W" }),
		one(api.ErrFree, func(s *api.Statute) { last(s).Body[2].A, last(s).Body[2].B = "W", "W" }),
		one(api.ErrFree, func(s *api.Statute) { last(s).Head.Args[0] = "X" }), // Y stands in no other place that has a kind
	)
}

// items: of house, with their numbers.
func items() []item {
	return []item{
		{"a kind", 1, kindWrongs()},
		{"a member", 2 + 3, memberWrongs()},
		{"a predicate", 2 + 4 + 14, predWrongs()},
		{"a class", 2 + 4 + 15 + 1, classWrongs()},
		{"a source", 2 + 4 + 15 + 2 + 1, sourceWrongs()},
		{"a rule", 2 + 4 + 15 + 2 + 2 + 1, ruleWrongs()},
		{"an exception", 2 + 4 + 15 + 2 + 2 + 2 + 1, exceptionWrongs()},
		{"a total", 2 + 4 + 15 + 2 + 2 + 2 + 2 + 1, totalWrongs()},
	}
}

// TestEachFault: by itself.
func TestEachFault(t *testing.T) {
	s := parsed(t, house)
	for _, item := range items() {
		for _, w := range item.wrongs {
			wantCheck(t, item.name, changed(s, w.spoil), w.errno, item.number)
		}
	}
}

// TestTwoFaultsOfOneItem: the first in the chapter's order is told. (It is done last, so that the other one leaves it as it is.)
func TestTwoFaultsOfOneItem(t *testing.T) {
	t.Parallel()
	s := parsed(t, house)
	for _, item := range items() {
		for i, first := range item.wrongs {
			for _, second := range item.wrongs[i+1:] {
				if first.errno == second.errno {
					continue
				}
				both := changed(s, func(s *api.Statute) {
					second.spoil(s)
					first.spoil(s)
				})
				wantCheck(t, item.name, both, first.errno, item.number)
				if t.Failed() {
					return
				}
			}
		}
	}
}

// TestFaultsOfTwoItems: the first item's is told, whatever it is.
func TestFaultsOfTwoItems(t *testing.T) {
	s := parsed(t, house)
	all := items()
	for i, item := range all {
		for _, other := range all[i+1:] {
			for n, first := range item.wrongs {
				second := other.wrongs[n*7%len(other.wrongs)]
				wantCheck(t, item.name+" and "+other.name, changed(changed(s, second.spoil), first.spoil), first.errno, item.number)
			}
			for n, second := range other.wrongs {
				first := item.wrongs[n*7%len(item.wrongs)]
				wantCheck(t, item.name+" and "+other.name, changed(changed(s, second.spoil), first.spoil), first.errno, item.number)
			}
		}
	}
}

// TestTwoItemsOfOneList: the first one is told.
func TestTwoItemsOfOneList(t *testing.T) {
	s := parsed(t, house)
	for _, each := range []struct {
		number int
		errno  api.Errno
		spoil  func(s *api.Statute)
	}{
		{0, api.ErrSymbol, func(s *api.Statute) { s.Kinds = []string{"A", "1"} }},
		{2, api.ErrKind, func(s *api.Statute) { s.Members[0].Kind, s.Members[1].Name = "none", "A" }},
		{6, api.ErrSort, func(s *api.Statute) { s.Preds[0].Sort, s.Preds[1].Name = 0, "" }},
		{21, api.ErrTwice, func(s *api.Statute) { s.Classes[0][1], s.Classes[1] = "old", nil }},
		{23, api.ErrRange, func(s *api.Statute) { s.Sources[0].Rank, s.Sources[1].Name = -1, "A" }},
		{25, api.ErrFree, func(s *api.Statute) {
			s.Rules[0].Body[0] = api.PremiseText{Kind: api.PremiseUnlike, A: "W", B: "X"}
			s.Rules[1].Name = "A"
		}},
		{27, api.ErrName, func(s *api.Statute) { s.Excepts[0].Under, s.Excepts[1].Over = "none", "none" }},
		{29, api.ErrArg, func(s *api.Statute) { s.Totals[0].Cap, s.Totals[1].Name = 1, "A" }},
	} {
		wantCheck(t, "two of one list", changed(s, each.spoil), each.errno, each.number)
	}
}
