package resolve_test

import (
	"math"
	"slices"
	"strings"
	"testing"

	"lexprior/api"
	"lexprior/resolve"
)

// firstOf: the place of the first thing of that name, found by going over the list.
func firstOf[T any](things []T, has func(T) bool) (int, bool) {
	n := slices.IndexFunc(things, has)
	return max(n, 0), n >= 0
}

// wantAsked: what all six that look a name up answer.
func wantAsked(t testing.TB, s api.Statute, name string) {
	t.Helper()
	want := func(what string, ask func(api.Statute, string) (int, bool), number int, there bool) {
		t.Helper()
		if n, ok := ask(s, name); n != number || ok != there {
			t.Errorf("P8.3: %s(%.1000v, %q): %d, %t, want %d, %t", what, s, name, n, ok, number, there)
		}
	}
	n, there := firstOf(s.Kinds, func(k string) bool { return k == name })
	want("Kind", resolve.Kind, n, there)
	n, there = firstOf(s.Members, func(m api.MemberText) bool { return m.Name == name })
	want("Member", resolve.Member, n, there)
	n, there = firstOf(s.Preds, func(p api.PredText) bool { return p.Name == name })
	want("Pred", resolve.Pred, n, there)
	n, there = firstOf(s.Rules, func(r api.RuleText) bool { return r.Name == name })
	want("Schema", resolve.Schema, n, there)
	n, there = firstOf(s.Sources, func(a api.SourceText) bool { return a.Name == name })
	want("Source", resolve.Source, n, there)
	n, there = firstOf(s.Totals, func(a api.TotalText) bool { return a.Name == name })
	want("Total", resolve.Total, n, there)
}

// wantLists: what Class, Sorts and Of answer.
func wantLists(t testing.TB, s api.Statute, class []int, sorts []api.Sort, of [][]int) {
	t.Helper()
	if got := resolve.Class(s); !slices.Equal(got, class) {
		t.Errorf("P8.3: Class(%.1000v): %d, want %d", s, got, class)
	}
	if got := resolve.Sorts(s); !slices.Equal(got, sorts) {
		t.Errorf("P8.3: Sorts(%.1000v): %d, want %d", s, got, sorts)
	}
	for kind, want := range of {
		if got := resolve.Of(s, kind); !slices.Equal(got, want) {
			t.Errorf("P8.3: Of(%.1000v, %d): %d, want %d", s, kind, got, want)
		}
	}
	for _, kind := range []int{-1, -2, len(s.Kinds), len(s.Kinds) + 1, math.MinInt, math.MaxInt} {
		if got := resolve.Of(s, kind); len(got) != 0 {
			t.Errorf("P8.3: Of(%.1000v, %d): %d", s, kind, got)
		}
	}
}

func TestNumbers(t *testing.T) {
	s := parsed(t, house)
	for _, each := range []struct {
		ask  func(api.Statute, string) (int, bool)
		name string
		want int
	}{
		{resolve.Kind, "person", 0}, {resolve.Kind, "flat", 1},
		{resolve.Member, "ann", 0}, {resolve.Member, "hut", 3},
		{resolve.Pred, "old", 0}, {resolve.Pred, "rate", 7}, {resolve.Pred, "help", 14},
		{resolve.Source, "decree", 0}, {resolve.Source, "act", 1},
		{resolve.Schema, "ra", 0}, {resolve.Schema, "rb", 1},
		{resolve.Total, "some", 0}, {resolve.Total, "all", 1},
	} {
		if n, there := each.ask(s, each.name); n != each.want || !there {
			t.Errorf("P8.3: of %q: %d, %t, want %d", each.name, n, there, each.want)
		}
	}
	for _, name := range []string{"", "none", "Person", "person ", "person", "ann", "old", "act", "ra", "all", "X", "\xff", strings.Repeat("x", 1<<16)} {
		wantAsked(t, s, name)
	}
	plain, number, amount := api.SortPlain, api.SortNumber, api.SortAmount
	wantLists(t, s, []int{0, 0, 1, 1, -1, -1, -1, -1, -1, -1, -1, -1, -1, -1, -1},
		[]api.Sort{plain, plain, plain, plain, plain, plain, plain, number, number, number, amount, amount, amount, amount, amount}, [][]int{{0, 1}, {2, 3}})
}

// TestRefusedStatutes: each name counts where it first stands, whether or not it is a name, and lists may have any length.
func TestRefusedStatutes(t *testing.T) {
	s := api.Statute{
		Kinds:   []string{"k", "", "k", "K", "l"},
		Members: []api.MemberText{{Name: "a", Kind: "l"}, {Name: "a", Kind: "k"}, {Name: "", Kind: "none"}, {Name: "X", Kind: ""}, {Name: "b", Kind: "k"}, {Name: "c", Kind: "K"}, {Name: "c", Kind: "k"}},
		Preds:   []api.PredText{{Name: "p"}, {Name: "q", Sort: 7}, {Name: "p", Sort: -1}, {Name: "", Sort: api.SortAmount}, {Name: "é", Sort: math.MinInt}, {Name: "none", Sort: api.SortNumber}},
		Classes: [][]string{{}, {"q"}, {"none of them", "p", "q", "p"}, {"", "é", "p"}, nil},
		Sources: []api.SourceText{{Name: "s"}, {Name: ""}, {Name: "s", Rank: -1}},
		Rules:   []api.RuleText{{}, {Name: "r"}, {Name: "r", At: 1}},
		Totals:  []api.TotalText{{Name: "T"}, {Name: "t"}, {Name: "t"}, {}},
	}
	wantCheck(t, "a refused statute", s, api.ErrSymbol, 1)
	for _, name := range []string{"k", "", "K", "l", "a", "X", "b", "c", "p", "q", "é", "s", "r", "T", "t", "none", "none of them"} {
		wantAsked(t, s, name)
	}
	wantLists(t, s, []int{2, 1, 2, 3, 3, -1}, []api.Sort{0, 7, -1, api.SortAmount, math.MinInt, api.SortNumber}, [][]int{{1, 4, 6}, {3}, {}, {5}, {0}})
	long := api.Statute{Kinds: numberedNames("k", 3000), Preds: plainPreds(3000), Rules: someRules(3000), Classes: [][]string{numberedNames("p", 2999)}}
	long.Members = listOf(3000, func(n int) api.MemberText { return api.MemberText{Name: "m", Kind: "k2999"} })
	wantAsked(t, long, "k2999")
	wantAsked(t, long, "p2999")
	wantAsked(t, long, "r2999")
	wantAsked(t, long, "m")
	if class := resolve.Class(long); len(class) != 3000 || class[2998] != 0 || class[2999] != -1 {
		t.Errorf("P8.3: Class of many: %d", class)
	}
	if of := resolve.Of(long, 2999); len(of) != 3000 || len(resolve.Sorts(long)) != 3000 || len(resolve.Of(long, 0)) != 0 {
		t.Errorf("P8.3: Of many: %d", of)
	}
}

// TestVarsInTheirOrder: of a rule's body, then its head.
func TestVarsInTheirOrder(t *testing.T) {
	for body, want := range map[string]struct {
		names string
		kinds []int
	}{
		"=> rains.":            {"", nil},
		"=> lives(ann, home).": {"", nil},
		"ann != ben => rains.": {"", nil},
		"=> lives(X, F).":      {"X F", []int{0, 1}},
		"lives(Y, F), lives(X, G) => lives(X, F).":                  {"Y F X G", []int{0, 1, 0, 1}},
		"F != X, X != Y => both(X, F) = 1.":                         {"", nil}, // refused
		"F != X, X != Y, old(Y) => both(X, F) = 1.":                 {"F X Y", []int{1, 0, 0}},
		"{rent(B, C) + income(A) < income(D)} => rains.":            {"B C A D", []int{0, 1, 0, 0}},
		"{1 < rent(X, C)}, old(X), {income(B) < 1} => lives(A, C).": {"X C B A", []int{0, 1, 0, 0}},
		"old(X), old(Y), old(X) => old(Z).":                         {"X Y Z", []int{0, 0, 0}},
		"lives(ann, G), ben != P, G != home => old(P).":             {"G P", []int{1, 0}},
		"{5 > 2*rent(ann, G) - 3*rent(P, G)} => rains.":             {"G P", []int{1, 0}},
	} {
		s := parsed(t, house+"rule rc of act at 2001-01-01 : "+body)
		errno := api.OK
		if strings.HasPrefix(body, "F != X, X != Y =>") {
			errno = api.ErrFree
		}
		wantVars(t, s, 2, strings.Fields(want.names), want.kinds, errno)
	}
	s := parsed(t, house)
	wantVars(t, s, 0, []string{"X"}, []int{0}, api.OK)
	wantVars(t, s, 1, []string{"X", "F", "G", "Y"}, []int{0, 1, 1, 0}, api.OK)
}

// TestVarsOfNoRule: Check's error goes ahead.
func TestVarsOfNoRule(t *testing.T) {
	s := parsed(t, house)
	wrong := changed(s, func(s *api.Statute) { s.Totals[1].Cap = -1 })
	for _, schema := range []int{-1, 2, 3, -2, 512, math.MinInt, math.MaxInt} {
		wantVars(t, s, schema, nil, nil, api.ErrArg)
		wantVars(t, wrong, schema, nil, nil, api.ErrOver)
	}
	wantVars(t, wrong, 0, nil, nil, api.ErrOver)
	wantVars(t, api.Statute{Totals: make([]api.TotalText, 65)}, 0, nil, nil, api.ErrCount)
	wantVars(t, api.Statute{Kinds: []string{"k", "k"}}, -1, nil, nil, api.ErrTwice)
}

func lit(pred string, args ...string) api.LitText {
	return api.LitText{Pred: pred, Args: args}
}

func worth(l api.LitText, value api.Money) api.LitText {
	l.HasValue, l.Value = true, value
	return l
}

func not(l api.LitText) api.LitText {
	l.Neg = true
	return l
}

func ground(neg bool, pred int, value api.Money, args ...int) api.Lit {
	return api.Lit{Neg: neg, Atom: api.Atom{Pred: pred, Args: args, Value: value}}
}

func TestLiterals(t *testing.T) {
	s := parsed(t, house)
	for _, each := range []struct {
		literal api.LitText
		want    api.Lit
	}{
		{lit("old", "ann"), ground(false, 0, 0, 0)},
		{not(lit("old", "ben")), ground(true, 0, 0, 1)},
		{lit("rains"), ground(false, 6, 0)},
		{not(lit("rains")), ground(true, 6, 0)},
		{api.LitText{Pred: "rains", Args: []string{}}, ground(false, 6, 0)},
		{lit("lives", "ben", "home"), ground(false, 4, 0, 1, 2)},
		{lit("lives", "ann", "hut"), ground(false, 4, 0, 0, 3)},
		{worth(lit("aid", "ann"), 0), ground(false, 11, 0, 0)},
		{worth(not(lit("aid", "ben")), 500), ground(true, 11, 500, 1)},
		{worth(lit("both", "ben", "hut"), 200), ground(false, 12, 200, 1, 3)},
		{worth(lit("bonus"), 300), ground(false, 13, 300)},
	} {
		wantLiteral(t, s, each.literal, each.want, api.OK)
	}
}

func TestWrongLiterals(t *testing.T) {
	s := parsed(t, house)
	wrongValue := lit("old", "ann")
	wrongValue.Value = 5
	for errno, literals := range map[api.Errno][]api.LitText{
		api.ErrName:   {lit(""), lit("none"), lit("none", "X"), lit("Old", "ann"), lit("old", "nobody"), lit("lives", "nobody", "X"), lit("lives", "nobody", "ann"), worth(lit("old", "nobody"), 5)},
		api.ErrSort:   {lit("rate"), lit("income", "X"), worth(lit("rent"), 5), worth(lit("old", "ann"), 0), worth(lit("rains"), 5), wrongValue, lit("help", "ann"), lit("bonus")},
		api.ErrArity:  {lit("old"), lit("old", "ann", "ben"), lit("old", "X", "Y"), lit("rains", "X"), lit("rains", ""), lit("lives", "X"), worth(lit("help"), 1), worth(lit("bonus", "ann"), 300), lit("lives", slices.Repeat([]string{"ann"}, 99)...)},
		api.ErrSymbol: {lit("old", ""), lit("old", "1"), lit("old", "X-"), lit("lives", "aB", "X"), lit("lives", "ann", "\xff"), worth(lit("old", "a b"), 1)},
		api.ErrKind:   {lit("old", "home"), lit("lives", "ann", "ben"), lit("lives", "hut", "X"), lit("lives", "home", "ann"), worth(lit("help", "hut"), 1)},
		api.ErrFree:   {lit("old", "X"), lit("lives", "X", ""), lit("lives", "X", "X"), lit("lives", "X", "nobody"), lit("lives", "X", "ann"), lit("lives", "ann", "F"), worth(lit("old", "X"), 5), lit("help", "X"), worth(lit("help", "X"), 7), not(lit("old", "Ann"))},
		api.ErrValue:  {worth(lit("help", "ann"), 0), worth(lit("help", "ann"), 300), worth(not(lit("help", "ann")), -1000), worth(lit("bonus"), 0), worth(lit("bonus"), math.MinInt64)},
	} {
		for _, l := range literals {
			wantLiteral(t, s, l, api.Lit{}, errno)
		}
	}
}

// TestLiteralsOfRefusedStatutes: Check's error goes ahead of the literal's, and of a literal that would be right.
func TestLiteralsOfRefusedStatutes(t *testing.T) {
	s := changed(parsed(t, house), func(s *api.Statute) { s.Totals[1].Cap = -1 })
	for _, l := range []api.LitText{lit("old", "ann"), lit("none"), lit("old", "X"), {}} {
		wantLiteral(t, s, l, api.Lit{}, api.ErrOver)
		wantLiteral(t, api.Statute{Kinds: make([]string, 17)}, l, api.Lit{}, api.ErrCount)
	}
}
