package guards_test

import (
	"slices"
	"testing"

	"lexprior/api"
	"lexprior/guards"
	"lexprior/money"
)

// The predicates of house, by their numbers, and its members.
const (
	income = iota
	rent
	shared
	rate
	old
	help
	distance
	secondIncome
	preds
)

const (
	ann = iota
	ben
	cem
	secondAnn
	members
)

// The greatest numbers of a guard that may be, as the document writes them.
const (
	greatestCoef  = 2 * 8 * 1000
	greatestConst = 2 * 8 * 1_000_000_000_000_000
)

// house has two predicates and two members of one name, of which the first counts.
func house() api.Statute {
	person := []string{"person"}
	return api.Statute{
		Kinds: person,
		Members: []api.MemberText{
			ann: {Name: "ann", Kind: "person"}, ben: {Name: "ben", Kind: "person"}, cem: {Name: "cem", Kind: "person"}, secondAnn: {Name: "ann", Kind: "person"},
		},
		Preds: []api.PredText{
			income:       {Name: "income", Sort: api.SortNumber, Kinds: person},
			rent:         {Name: "rent", Sort: api.SortNumber, Kinds: person},
			shared:       {Name: "shared", Sort: api.SortNumber, Kinds: []string{"person", "person"}},
			rate:         {Name: "rate", Sort: api.SortNumber},
			old:          {Name: "old", Sort: api.SortPlain, Kinds: person},
			help:         {Name: "help", Sort: api.SortAmount, Kinds: person, Values: []api.Money{10}},
			distance:     {Name: "distance", Sort: api.SortNumber, Kinds: []string{"person", "person", "person", "person"}},
			secondIncome: {Name: "income", Sort: api.SortNumber, Kinds: person},
		},
	}
}

func allOps() []api.Op {
	return []api.Op{api.OpLess, api.OpMost, api.OpEqual, api.OpUnequal, api.OpLeast, api.OpMore}
}

func atom(pred int, args ...int) api.Atom {
	return api.Atom{Pred: pred, Args: args}
}

func worth(a api.Atom, value api.Money) api.Atom {
	a.Value = value
	return a
}

func times(coef int64, a api.Atom) api.Term {
	return api.Term{Coef: coef, Atom: a}
}

func guard(op api.Op, cents api.Money, terms ...api.Term) api.Guard {
	return api.Guard{Terms: terms, Const: cents, Op: op}
}

func number(a api.Atom, value api.Money) api.Number {
	return api.Number{Atom: a, Value: value}
}

// manyTerms: so many that rise.
func manyTerms(count int) []api.Term {
	var terms []api.Term
	for n := range count {
		terms = append(terms, times(1, atom(n/3, n%3)))
	}
	return terms
}

func textOf(coef int64, pred string, args ...string) api.TermText {
	return api.TermText{Coef: coef, Pred: pred, Args: args}
}

func moneyText(m api.Money) api.TermText {
	return api.TermText{Value: m}
}

func side(terms ...api.TermText) []api.TermText {
	return terms
}

// alikeAtoms, alike: whether two have the same in each field; lists that are nil and those that are empty are one.
func alikeAtoms(a, b api.Atom) bool {
	return a.Pred == b.Pred && slices.Equal(a.Args, b.Args) && a.Value == b.Value
}

func alike(a, b api.Guard) bool {
	sameTerm := func(a, b api.Term) bool { return a.Coef == b.Coef && alikeAtoms(a.Atom, b.Atom) }
	return slices.EqualFunc(a.Terms, b.Terms, sameTerm) && a.Const == b.Const && a.Op == b.Op
}

func wantCheck(t testing.TB, g api.Guard, errno api.Errno) {
	t.Helper()
	if got := guards.Check(g); got != errno {
		t.Errorf("P10.1: Check(%+v): %d, want %d", g, got, errno)
	}
}

// wantCompare: of the two, whichever is ahead.
func wantCompare(t testing.TB, a, b api.Guard, want int) {
	t.Helper()
	if got, turned := guards.Compare(a, b), guards.Compare(b, a); got != want || turned != -want {
		t.Errorf("P10.1: Compare(%+v, %+v): %d, the other way round %d, want %d", a, b, got, turned, want)
	}
}

func wantCompareAtoms(t testing.TB, a, b api.Atom, want int) {
	t.Helper()
	if got, turned := guards.CompareAtoms(a, b), guards.CompareAtoms(b, a); got != want || turned != -want {
		t.Errorf("P10.1: CompareAtoms(%+v, %+v): %d, the other way round %d, want %d", a, b, got, turned, want)
	}
}

func wantOf(t testing.TB, s api.Statute, text api.GuardText, names []string, members []int, want api.Guard, errno api.Errno) {
	t.Helper()
	if got, gotErrno := guards.Of(s, text, names, members); !alike(got, want) || gotErrno != errno {
		t.Errorf("P10.2: Of(%+v, %q, %d): %+v, %d, want %+v, %d", text, names, members, got, gotErrno, want, errno)
	}
}

func wantPrint(t testing.TB, s api.Statute, g api.Guard, want string, errno api.Errno) {
	t.Helper()
	if got, gotErrno := guards.Print(s, g); got != want || gotErrno != errno {
		t.Errorf("P10.3: Print(%+v): %q, %d, want %q, %d", g, got, gotErrno, want, errno)
	}
}

func wantTruth(t testing.TB, g api.Guard, l []api.Number, known, holds bool) {
	t.Helper()
	if gotKnown, gotHolds := guards.Truth(g, l); gotKnown != known || gotHolds != holds {
		t.Errorf("P10.4: Truth(%+v, %+v): %t, %t, want %t, %t", g, l, gotKnown, gotHolds, known, holds)
	}
}

func wantOpposite(t testing.TB, g, want api.Guard, errno api.Errno) {
	t.Helper()
	if got, gotErrno := guards.Opposite(g); !alike(got, want) || gotErrno != errno {
		t.Errorf("P10.5: Opposite(%+v): %+v, %d, want %+v, %d", g, got, gotErrno, want, errno)
	}
}

func wantAtoms(t testing.TB, l []api.Guard, want []api.Atom) {
	t.Helper()
	if got := guards.Atoms(l); !slices.EqualFunc(got, want, alikeAtoms) {
		t.Errorf("P10.5: Atoms(%.1000v): %.1000v, want %.1000v", l, got, want)
	}
}

func wantNumbers(t testing.TB, l []api.Number, errno api.Errno) {
	t.Helper()
	if got := guards.CheckNumbers(l); got != errno {
		t.Errorf("P10.5: CheckNumbers(%+v): %d, want %d", l, got, errno)
	}
}

// TestGreatest: the document's numbers are those of api and money.
func TestGreatest(t *testing.T) {
	if greatestCoef != 2*api.MaxTerms*api.MaxCoef || greatestConst != 2*api.MaxTerms*money.Most {
		t.Errorf("a guard's greatest numbers are %d, %d", 2*api.MaxTerms*api.MaxCoef, int64(2*api.MaxTerms*money.Most))
	}
}
