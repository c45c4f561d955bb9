package resolve_test

import (
	"math"
	"slices"
	"strconv"
	"strings"
	"testing"

	"lexprior/api"
	"lexprior/money"
	"lexprior/resolve"
)

// numberedNames: so many names, each another.
func numberedNames(prefix string, many int) []string {
	names := make([]string, many)
	for n := range names {
		names[n] = prefix + strconv.Itoa(n)
	}
	return names
}

// listOf: so many things, each made of its number.
func listOf[T any](many int, make func(n int) T) []T {
	var things []T
	for n := range many {
		things = append(things, make(n))
	}
	return things
}

func plainPreds(many int, kinds ...string) []api.PredText {
	return listOf(many, func(n int) api.PredText {
		return api.PredText{Name: "p" + strconv.Itoa(n), Sort: api.SortPlain, Kinds: kinds}
	})
}

func amounts(many int, kinds ...string) []api.PredText {
	return listOf(many, func(n int) api.PredText {
		return api.PredText{Name: "p" + strconv.Itoa(n), Sort: api.SortAmount, Kinds: kinds, Values: []api.Money{0}}
	})
}

// someRules: rules r0, r1, .. of the source a with the head p0.
func someRules(many int) []api.RuleText {
	return listOf(many, func(n int) api.RuleText {
		return api.RuleText{Name: "r" + strconv.Itoa(n), Source: "a", At: 1, Arrow: api.Strict, Head: api.LitText{Pred: "p0"}}
	})
}

var sourceA = []api.SourceText{{Name: "a"}}

// sized is a list of items, its limit, and a statute that Check takes, but for that list's length.
type sized struct {
	name string
	most int
	of   func(many int) api.Statute
}

func sizedLists() []sized {
	return []sized{
		{"kinds", 16, func(many int) api.Statute { return api.Statute{Kinds: numberedNames("k", many)} }},
		{"members", 64, func(many int) api.Statute {
			return api.Statute{Kinds: []string{"k"}, Members: listOf(many, func(n int) api.MemberText { return api.MemberText{Name: "m" + strconv.Itoa(n), Kind: "k"} })}
		}},
		{"predicates", 256, func(many int) api.Statute { return api.Statute{Preds: plainPreds(many)} }},
		{"classes", 64, func(many int) api.Statute {
			return api.Statute{Preds: plainPreds(2 * many), Classes: listOf(many, func(n int) []string { return []string{"p" + strconv.Itoa(2*n), "p" + strconv.Itoa(2*n+1)} })}
		}},
		{"sources", 64, func(many int) api.Statute {
			return api.Statute{Sources: listOf(many, func(n int) api.SourceText { return api.SourceText{Name: "a" + strconv.Itoa(n)} })}
		}},
		{"rules", 512, func(many int) api.Statute {
			return api.Statute{Preds: plainPreds(1), Sources: sourceA, Rules: someRules(many)}
		}},
		{"exceptions", 512, func(many int) api.Statute {
			return api.Statute{Preds: plainPreds(1), Sources: sourceA, Rules: someRules(30), Excepts: listOf(many, func(n int) api.Exception {
				return api.Exception{Over: "r" + strconv.Itoa(n/30), Under: "r" + strconv.Itoa(n%30)}
			})}
		}},
		{"totals", 64, func(many int) api.Statute {
			return api.Statute{Kinds: []string{"k"}, Preds: amounts(1, "k"), Totals: listOf(many, func(n int) api.TotalText {
				return api.TotalText{Name: "t" + strconv.Itoa(n), Kind: "k", Preds: []string{"p0"}}
			})}
		}},
	}
}

func TestLongLists(t *testing.T) {
	for _, list := range sizedLists() {
		wantTaken(t, list.name, list.of(0))
		wantTaken(t, list.name, list.of(1))
		wantTaken(t, list.name, list.of(list.most))
		wantCheck(t, list.name, list.of(list.most+1), api.ErrCount, 0)
		wantCheck(t, list.name, list.of(5*list.most), api.ErrCount, 0)
	}
}

// TestLongListsGoAhead: of every fault of an item, and of whatever list.
func TestLongListsGoAhead(t *testing.T) {
	for _, list := range sizedLists() {
		s := list.of(list.most + 1)
		s.Kinds = append([]string{"A", "A"}, s.Kinds...)
		wantCheck(t, list.name, s, api.ErrCount, 0)
	}
	wantCheck(t, "items of nothing", api.Statute{Kinds: []string{""}, Totals: make([]api.TotalText, 65)}, api.ErrCount, 0)
}

// TestAllListsAtTheirLimits: in one statute.
func TestAllListsAtTheirLimits(t *testing.T) {
	s := api.Statute{Kinds: numberedNames("k", 16), Members: listOf(64, func(n int) api.MemberText {
		return api.MemberText{Name: "m" + strconv.Itoa(n), Kind: "k" + strconv.Itoa(n%16)}
	})}
	s.Preds = append(plainPreds(192, "k0"), listOf(64, func(n int) api.PredText {
		return api.PredText{Name: "h" + strconv.Itoa(n), Sort: api.SortAmount, Kinds: []string{"k15"}, Values: []api.Money{0, 1}}
	})...)
	s.Classes = listOf(64, func(n int) []string {
		return []string{"p" + strconv.Itoa(3*n), "p" + strconv.Itoa(3*n+1), "p" + strconv.Itoa(3*n+2)}
	})
	s.Sources = listOf(64, func(n int) api.SourceText { return api.SourceText{Name: "a" + strconv.Itoa(n), Rank: n} })
	s.Rules = someRules(512)
	for n := range s.Rules {
		s.Rules[n].Source = "a" + strconv.Itoa(n%64)
		s.Rules[n].Head = api.LitText{Pred: "h63", Args: []string{"X"}, HasValue: true, Value: 1}
	}
	s.Excepts = listOf(512, func(n int) api.Exception {
		return api.Exception{Over: "r" + strconv.Itoa(n), Under: "r" + strconv.Itoa(511-n)}
	})
	s.Totals = listOf(64, func(n int) api.TotalText {
		return api.TotalText{Name: "t" + strconv.Itoa(n), Kind: "k15", Preds: []string{"h" + strconv.Itoa(n)}}
	})
	wantCheck(t, "all at their limits", s, api.OK, 16+64+256+64+64+512+512+64)
	wantVars(t, s, 511, []string{"X"}, []int{15}, api.OK)
	s.Totals[63].Cap = 1
	wantCheck(t, "the last one wrong", s, api.ErrArg, 16+64+256+64+64+512+512+63)
}

// TestNothing: an empty statute, of nil and of empty lists.
func TestNothing(t *testing.T) {
	empty := api.Statute{Title: "\xff", Kinds: []string{}, Members: []api.MemberText{}, Preds: []api.PredText{}, Classes: [][]string{}, Sources: []api.SourceText{}, Rules: []api.RuleText{}, Excepts: []api.Exception{}, Totals: []api.TotalText{}}
	for _, s := range []api.Statute{{}, empty} {
		wantCheck(t, "nothing", s, api.OK, 0)
		for _, schema := range []int{0, -1, 1, math.MaxInt, math.MinInt} {
			wantVars(t, s, schema, nil, nil, api.ErrArg)
		}
		wantLiteral(t, s, api.LitText{}, api.Lit{}, api.ErrName)
		wantAsked(t, s, "")
		if len(resolve.Class(s)) != 0 || len(resolve.Sorts(s)) != 0 || len(resolve.Of(s, 0)) != 0 {
			t.Errorf("P8.3: of nothing: %d, %d, %d", resolve.Class(s), resolve.Sorts(s), resolve.Of(s, 0))
		}
	}
}

// TestZeroItems: of each kind.
func TestZeroItems(t *testing.T) {
	wantCheck(t, "a kind", api.Statute{Kinds: []string{""}}, api.ErrSymbol, 0)
	wantCheck(t, "a member", api.Statute{Members: make([]api.MemberText, 1)}, api.ErrSymbol, 0)
	wantCheck(t, "a predicate", api.Statute{Preds: make([]api.PredText, 1)}, api.ErrSymbol, 0)
	wantCheck(t, "a class", api.Statute{Classes: make([][]string, 1)}, api.ErrCount, 0)
	wantCheck(t, "a source", api.Statute{Sources: make([]api.SourceText, 1)}, api.ErrSymbol, 0)
	wantCheck(t, "a rule", api.Statute{Rules: make([]api.RuleText, 1)}, api.ErrSymbol, 0)
	wantCheck(t, "an exception", api.Statute{Excepts: make([]api.Exception, 1)}, api.ErrName, 0)
	wantCheck(t, "a total", api.Statute{Totals: make([]api.TotalText, 1)}, api.ErrSymbol, 0)
}

// TestOneNameForAll: one of each kind of item has the same name, and a long one.
func TestOneNameForAll(t *testing.T) {
	for _, name := range []string{"a", "x_1", "rule", strings.Repeat("z", 32)} {
		s := api.Statute{
			Kinds: []string{name}, Members: []api.MemberText{{Name: name, Kind: name}},
			Preds:   []api.PredText{{Name: name, Sort: api.SortAmount, Kinds: []string{name}, Values: []api.Money{5}}},
			Sources: []api.SourceText{{Name: name}},
			Rules: []api.RuleText{{Name: name, Source: name, At: 1, Arrow: api.Defeater, Head: api.LitText{Pred: name, Args: []string{name}, HasValue: true, Value: 5},
				Body: []api.PremiseText{{Kind: api.PremiseUnlike, A: name, B: name}}}},
			Excepts: []api.Exception{{Over: name, Under: name}},
			Totals:  []api.TotalText{{Name: name, Kind: name, Preds: []string{name}}},
		}
		wantCheck(t, name, s, api.OK, 7)
		wantAsked(t, s, name)
		wantVars(t, s, 0, nil, nil, api.OK)
		wantLiteral(t, s, s.Rules[0].Head, api.Lit{Atom: api.Atom{Args: []int{0}, Value: 5}}, api.OK)
	}
}

// within: what house answers with a value that may be, and with one that may not.
func within[T any](t *testing.T, what string, errno api.Errno, number int, put func(s *api.Statute, value T), good, bad []T) {
	t.Helper()
	house := parsed(t, house)
	for _, value := range good {
		wantTaken(t, what, changed(house, func(s *api.Statute) { put(s, value) }))
	}
	for _, value := range bad {
		wantCheck(t, what, changed(house, func(s *api.Statute) { put(s, value) }), errno, number)
	}
}

func rising(many int) []api.Money {
	return listOf(many, func(n int) api.Money { return api.Money(10 * n) })
}

func TestPredicates(t *testing.T) {
	// rains, bonus and rate, which no item needs as they are.
	within(t, "arity", api.ErrCount, 12, func(s *api.Statute, many int) { s.Preds[6].Kinds = slices.Repeat([]string{"flat"}, many) }, []int{0, 1, 4}, []int{5, 6, 99})
	within(t, "values", api.ErrCount, 19, func(s *api.Statute, many int) { s.Preds[13].Values = rising(many) }, []int{1, 2, 64}, []int{65, 66, 999})
	within(t, "values", api.ErrValue, 19, func(s *api.Statute, l []api.Money) { s.Preds[13].Values = l },
		[][]api.Money{{0}, {money.Most}, {0, 1, money.Most}, {5, 4, 3}},
		[][]api.Money{{}, {-1}, {money.Most + 1}, {0, -1}, {0, 0}, {money.Most, 0, money.Most}, {5, 4, 4}, {math.MinInt64}, {math.MaxInt64}})
	within(t, "sort", api.ErrSort, 12, func(s *api.Statute, sort api.Sort) { s.Preds[6].Sort = sort }, []api.Sort{api.SortPlain, api.SortNumber}, []api.Sort{0, 4, -1, math.MinInt, math.MaxInt})
	within(t, "an amount without values", api.ErrValue, 12, func(s *api.Statute, sort api.Sort) { s.Preds[6].Sort = sort }, nil, []api.Sort{api.SortAmount})
	within(t, "values of a plain one", api.ErrValue, 12, func(s *api.Statute, l []api.Money) { s.Preds[6].Values = l }, [][]api.Money{nil, {}}, [][]api.Money{{0}, {1}, {1, 1}, rising(64)})
	within(t, "values of a plain one", api.ErrCount, 12, func(s *api.Statute, many int) { s.Preds[6].Values = rising(many) }, []int{0}, []int{65})
	within(t, "values of a number", api.ErrValue, 13, func(s *api.Statute, l []api.Money) { s.Preds[7].Values = l }, [][]api.Money{nil, {}}, [][]api.Money{{0}, {1}, rising(64)})
	within(t, "values of a number", api.ErrCount, 13, func(s *api.Statute, many int) { s.Preds[7].Values = rising(many) }, []int{0}, []int{65})
}

func TestRanks(t *testing.T) {
	within(t, "rank", api.ErrRange, 23, func(s *api.Statute, rank int) { s.Sources[0].Rank = rank }, []int{0, 1, 999, 1000}, []int{-1, 1001, math.MinInt, math.MaxInt})
}

// TestClasses: of as many names as may be, with kinds and without.
func TestClasses(t *testing.T) {
	for _, kinds := range [][]string{nil, {"k"}, {"k", "l", "k", "l"}} {
		of := func(many int) api.Statute {
			return api.Statute{Kinds: []string{"k", "l"}, Preds: plainPreds(20, kinds...), Classes: [][]string{numberedNames("p", many)}}
		}
		for _, many := range []int{2, 3, 16} {
			wantTaken(t, many, of(many))
		}
		for _, many := range []int{0, 1, 17, 20, 99} {
			wantCheck(t, many, of(many), api.ErrCount, 22)
		}
	}
	// Kinds are the first one's in their order, all of them.
	s := parsed(t, "kind k. kind l. pred a(k, l). pred b(l, k). pred c(k). pred d(k, l). pred e(k, l, l). class a, d. class c, b.")
	wantCheck(t, "kinds", s, api.ErrClass, 8)
	for _, second := range []string{"b", "c", "e"} {
		wantCheck(t, "kinds", changed(s, func(s *api.Statute) { s.Classes = [][]string{{"a", second}} }), api.ErrClass, 7)
	}
	wantCheck(t, "kinds and twice", changed(s, func(s *api.Statute) { s.Classes[1] = []string{"c", "a"} }), api.ErrClass, 8)
	wantCheck(t, "in one ahead", changed(s, func(s *api.Statute) { s.Classes[1] = []string{"a", "c"} }), api.ErrTwice, 8)
	wantCheck(t, "in this one", changed(s, func(s *api.Statute) { s.Classes[1] = []string{"c", "c"} }), api.ErrTwice, 8)
	three := parsed(t, "pred a. pred b. pred c. pred d. pred e. pred f. class a, b. class c, d. class e, f, b.")
	wantCheck(t, "in the first of three", three, api.ErrTwice, 8)
	wantTaken(t, "nowhere", changed(three, func(s *api.Statute) { s.Classes[2] = s.Classes[2][:2] }))
}

func TestDays(t *testing.T) {
	put := func(s *api.Statute, days [2]api.Date) { last(s).At, last(s).Until = days[0], days[1] }
	good := [][2]api.Date{{1, 0}, {1, 2}, {1, 3652059}, {3652059, 0}, {3652058, 3652059}}
	within(t, "days", api.ErrDate, 26, put, good, [][2]api.Date{{0, 0}, {0, 1}, {-1, 0}, {3652060, 0}, {3652060, 3652061}, {1, -1}, {1, 3652060}, {3652059, 3652060}, {0, -1}, {math.MinInt, math.MaxInt}, {5, math.MinInt}, {5, math.MaxInt}})
	within(t, "days", api.ErrOrder, 26, put, good, [][2]api.Date{{1, 1}, {2, 1}, {3652059, 1}, {3652059, 3652058}, {3652059, 3652059}, {730606, 730606}})
}

func TestArrows(t *testing.T) {
	within(t, "arrow", api.ErrArg, 26, func(s *api.Statute, arrow api.Arrow) { last(s).Arrow = arrow }, []api.Arrow{api.Strict, api.Defeasible, api.Defeater}, []api.Arrow{0, 4, -1, math.MinInt, math.MaxInt})
}

func TestPremises(t *testing.T) {
	put := func(s *api.Statute, many int) {
		last(s).Body = slices.Repeat([]api.PremiseText{{Kind: api.PremiseLit, Lit: api.LitText{Pred: "rains"}}}, many)
	}
	within(t, "premises", api.ErrCount, 26, put, []int{0, 1, 15, 16}, []int{17, 18, 999})
	within(t, "premises of no kind", api.ErrArg, 26, func(s *api.Statute, many int) { last(s).Body = make([]api.PremiseText, many) }, nil, []int{1, 16})
	within(t, "premises of no kind", api.ErrCount, 26, func(s *api.Statute, many int) { last(s).Body = make([]api.PremiseText, many) }, nil, []int{17, 99})
}

// TestPremisesHaveWhatTheyNeedAlone: of all else nothing is asked.
func TestPremisesHaveWhatTheyNeedAlone(t *testing.T) {
	none := api.LitText{Neg: true, Pred: "none", Args: []string{"", "W"}, Value: math.MaxInt64}
	wrong := api.GuardText{Left: []api.TermText{{Coef: 1, Args: []string{"V"}}}, Op: 99}
	within(t, "premises", api.OK, 0, func(s *api.Statute, p api.PremiseText) { s.Rules[0].Body = append(s.Rules[0].Body, p) }, []api.PremiseText{
		{Kind: api.PremiseLit, Lit: api.LitText{Pred: "rains"}, Guard: wrong, A: "W", B: ""},
		{Kind: api.PremiseGuard, Guard: guard(sum(cents(0)), sum(cents(0))), Lit: none, A: "", B: "W"},
		{Kind: api.PremiseUnlike, A: "X", B: "home", Lit: none, Guard: wrong},
	}, nil)
	s := changed(parsed(t, house), func(s *api.Statute) {
		s.Rules[0].Body = append(s.Rules[0].Body, api.PremiseText{Kind: api.PremiseUnlike, A: "X", B: "home", Lit: none, Guard: wrong})
		s.Rules[0].Body = append(s.Rules[0].Body, api.PremiseText{Kind: api.PremiseLit, Lit: api.LitText{Pred: "rains"}, Guard: wrong, A: "W", B: "V"})
	})
	wantVars(t, s, 0, []string{"X"}, []int{0}, api.OK)
}

func cents(value api.Money) api.TermText {
	return api.TermText{Value: value}
}

func times(coef int64, pred string, args ...string) api.TermText {
	return api.TermText{Coef: coef, Pred: pred, Args: args}
}

func sum(terms ...api.TermText) []api.TermText {
	return terms
}

func guard(left, right []api.TermText) api.GuardText {
	return api.GuardText{Left: left, Op: api.OpLess, Right: right}
}

func putGuard(s *api.Statute, g api.GuardText) {
	last(s).Body[1].Guard = g
}

func TestGuards(t *testing.T) {
	within(t, "op", api.ErrGuard, 26, func(s *api.Statute, op api.Op) { last(s).Body[1].Guard.Op = op },
		[]api.Op{api.OpLess, api.OpMost, api.OpEqual, api.OpUnequal, api.OpLeast, api.OpMore}, []api.Op{0, 7, -1, math.MinInt, math.MaxInt})
	side := func(many int) []api.TermText { return slices.Repeat(sum(times(1, "rate")), many) }
	within(t, "sides", api.ErrGuard, 26, func(s *api.Statute, many [2]int) { putGuard(s, guard(side(many[0]), side(many[1]))) },
		[][2]int{{1, 1}, {8, 8}, {1, 8}, {8, 1}}, [][2]int{{0, 0}, {0, 1}, {1, 0}, {9, 1}, {1, 9}, {9, 9}, {999, 1}, {1, 999}})
	within(t, "factors", api.ErrGuard, 26, func(s *api.Statute, coef int64) { putGuard(s, guard(sum(cents(0)), sum(times(coef, "rate")))) },
		[]int64{1, -1, 2, 999, 1000, -999, -1000}, []int64{0, 1001, -1001, math.MinInt64, math.MaxInt64})
	within(t, "money", api.ErrOver, 26, func(s *api.Statute, value api.Money) { putGuard(s, guard(sum(cents(value)), sum(times(1, "rate")))) },
		[]api.Money{0, 1, -1, money.Most, -money.Most}, []api.Money{money.Most + 1, -money.Most - 1, math.MinInt64, math.MaxInt64})
	good := guard(sum(times(1, "rate")), sum(cents(0)))
	within(t, "terms", api.ErrGuard, 26, func(s *api.Statute, term api.TermText) { good.Right = sum(cents(1), term); putGuard(s, good) },
		sum(cents(5), api.TermText{Args: []string{}}), sum(api.TermText{Coef: 1}, api.TermText{Args: []string{"X"}}, api.TermText{Coef: 1, Value: money.Most + 1}, api.TermText{Args: []string{"X"}, Value: money.Most + 1}, api.TermText{Coef: 1, Pred: "rate", Value: 1}))
	// The left side is asked ahead of the right one, and each term whole.
	within(t, "left", api.ErrName, 26, putGuard, nil, []api.GuardText{guard(sum(times(1, "none")), sum(times(1, "old"))), guard(sum(times(1, "rate"), times(1, "none")), sum(times(1, "old")))})
	within(t, "left", api.ErrSort, 26, putGuard, nil, []api.GuardText{guard(sum(times(1, "old")), sum(times(1, "none"))), guard(sum(times(1, "help"), times(0, "none")), sum(times(1, "none")))})
}

// TestVariables: in which places a variable stands.
func TestVariables(t *testing.T) {
	for body, errno := range map[string]api.Errno{
		"=> old(X).":                                 api.OK, // in the head alone
		"=> lives(X, F).":                            api.OK,
		"{income(X) < 1} => rains.":                  api.OK, // in a guard alone
		"{1 < rent(X, F)} => rains.":                 api.OK,
		"{rate < 1 + income(X)}, X != Y => old(Y).":  api.OK,
		"old(X) => rains.":                           api.OK, // in a literal alone
		"X != Y => lives(X, Y).":                     api.OK, // unlike ones of two kinds
		"X != X, old(X) => rains.":                   api.OK,
		"ann != home => rains.":                      api.OK,
		"X != ann => rains.":                         api.ErrFree,
		"ann != X => rains.":                         api.ErrFree,
		"X != X => rains.":                           api.ErrFree,
		"X != Y, Y != X => old(X).":                  api.ErrFree,
		"old(Xy), X != ann => old(Xy).":              api.ErrFree,
		"{income(X) < income(Y)}, Z != X => rains.":  api.ErrFree,
		"old(X) => big(X).":                          api.ErrKind, // in places of two kinds
		"lives(X, X) => rains.":                      api.ErrKind,
		"=> lives(X, X).":                            api.ErrKind,
		"{rent(X, X) < 1} => rains.":                 api.ErrKind,
		"{income(X) < rent(ann, X)} => rains.":       api.ErrKind,
		"{rent(ann, X) < 1}, old(X) => rains.":       api.ErrKind,
		"X != ann, big(X), old(X) => rains.":         api.ErrKind,
		"big(X), W != ann => old(X).":                api.ErrKind, // ahead of a free one
		"lives(X, home), lives(Y, hut) => old(X).":   api.OK,
		"lives(X, F), lives(Y, F), X != Y => rains.": api.OK,
	} {
		s := parsed(t, house+"rule rc of act at 2001-01-01 : "+body)
		if errno == api.OK {
			wantTaken(t, body, s)
		} else {
			wantCheck(t, body, s, errno, 27)
		}
	}
}

// TestRulesAreForThemselves: a variable of one rule is another one in the next.
func TestRulesAreForThemselves(t *testing.T) {
	wantTaken(t, "two rules", parsed(t, house+"rule rc of act at 2001-01-01 : => big(X). rule rd of act at 2001-01-01 : => old(X)."))
	wantCheck(t, "two rules", parsed(t, house+"rule rc of act at 2001-01-01 : => old(X). rule rd of act at 2001-01-01 : X != ann => rains."), api.ErrFree, 28)
}

func TestLongArguments(t *testing.T) {
	x, y := "X"+strings.Repeat("y", 31), "X"+strings.Repeat("y", 32)
	within(t, "a long variable", api.ErrSymbol, 25, func(s *api.Statute, arg string) { s.Rules[0].Body[0].Lit.Args[0] = arg }, []string{"X", x, "Z_9z"}, []string{y, "", "9", "x-"})
	name := strings.Repeat("m", 32)
	s := changed(parsed(t, house), func(s *api.Statute) {
		s.Members[0].Name = name
		s.Rules[0].Body[0].Lit.Args[0] = name
		last(s).Body[1].Guard.Right[1].Args[0] = name
	})
	wantTaken(t, "a long name", s)
	wantCheck(t, "a long name", changed(s, func(s *api.Statute) { s.Rules[0].Body[0].Lit.Args[0] += "m" }), api.ErrSymbol, 25)
}

// TestExceptions: the other way round is another one, and one to itself is no fault here.
func TestExceptions(t *testing.T) {
	s := parsed(t, house)
	for _, each := range []struct {
		more  []api.Exception
		errno api.Errno
		at    int
	}{
		{[]api.Exception{{Over: "ra", Under: "ra"}, {Over: "rb", Under: "rb"}}, api.OK, 33},
		{[]api.Exception{{Over: "ra", Under: "rb"}}, api.ErrTwice, 29},
		{[]api.Exception{{Over: "ra", Under: "ra"}, {Over: "rb", Under: "ra"}}, api.ErrTwice, 30},
		{[]api.Exception{{Over: "ra", Under: "ra"}, {Over: "ra", Under: "ra"}}, api.ErrTwice, 30},
		{[]api.Exception{{Over: "none", Under: "ra"}, {Over: "none", Under: "ra"}}, api.ErrName, 29},
	} {
		more := changed(s, func(s *api.Statute) { s.Excepts = append(s.Excepts, each.more...) })
		wantCheck(t, each.more, more, each.errno, each.at)
	}
}

func TestTotals(t *testing.T) {
	of := func(many int) api.Statute {
		return api.Statute{Kinds: []string{"k"}, Preds: amounts(20, "k"), Totals: []api.TotalText{{Name: "t", Kind: "k", Preds: numberedNames("p", many)}}}
	}
	for _, many := range []int{1, 2, 16} {
		wantTaken(t, many, of(many))
	}
	for _, many := range []int{0, 17, 20, 99} {
		wantCheck(t, many, of(many), api.ErrCount, 21)
	}
	put := func(s *api.Statute, most api.Money) { s.Totals[0].HasCap, s.Totals[0].Cap = true, most }
	within(t, "cap", api.ErrOver, 29, put, []api.Money{0, 1, money.Most}, []api.Money{-1, money.Most + 1, -money.Most, math.MinInt64, math.MaxInt64})
	put = func(s *api.Statute, most api.Money) { s.Totals[0].HasCap, s.Totals[0].Cap = false, most }
	within(t, "no cap", api.ErrArg, 29, put, []api.Money{0}, []api.Money{1, -1, money.Most, money.Most + 1, math.MinInt64, math.MaxInt64})
	// Two totals may have one predicate.
	within(t, "shared", api.OK, 0, func(s *api.Statute, name string) {
		s.Totals = append(s.Totals, api.TotalText{Name: name, Kind: "person", Preds: []string{"help", "aid"}})
	}, []string{"t", "help", "person"}, nil)
}

// TestTitles: are not looked at.
func TestTitles(t *testing.T) {
	within(t, "title", api.OK, 0, func(s *api.Statute, title string) { s.Title = title }, []string{"", "Help", "\"", "\n", "\x00\xff", strings.Repeat("x", 1<<20)}, nil)
}
