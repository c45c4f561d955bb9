package facts_test

import (
	"fmt"
	"slices"
	"testing"

	"lexprior/api"
	"lexprior/facts"
	"lexprior/guards"
	"lexprior/money"
)

// The predicates and members of the tests, by their numbers.
const (
	income = iota
	rent
	shared
	rate
)

const (
	ann = iota
	ben
	cem
)

// The greatest numbers of a guard that may be, as the document writes them, and the greatest amount.
const (
	greatestCoef  = 2 * 8 * 1000
	greatestConst = 2 * 8 * 1_000_000_000_000_000
	most          = 1_000_000_000_000_000
)

func allOps() []api.Op {
	return []api.Op{api.OpLess, api.OpMost, api.OpEqual, api.OpUnequal, api.OpLeast, api.OpMore}
}

// takes: which signs of a sum an Op takes.
func takes(op api.Op, sign int) bool {
	signs := [][]int{api.OpLess: {-1}, api.OpMost: {-1, 0}, api.OpEqual: {0}, api.OpUnequal: {-1, 1}, api.OpLeast: {0, 1}, api.OpMore: {1}}
	return slices.Contains(signs[op], sign)
}

func atom(pred int, args ...int) api.Atom {
	return api.Atom{Pred: pred, Args: args}
}

func worth(a api.Atom, value api.Money) api.Atom {
	a.Value = value
	return a
}

func times(coef int64, a api.Atom) api.Term {
	return api.Term{Coef: coef, Atom: a}
}

func guard(op api.Op, cents api.Money, terms ...api.Term) api.Guard {
	return api.Guard{Terms: terms, Const: cents, Op: op}
}

func number(a api.Atom, value api.Money) api.Number {
	return api.Number{Atom: a, Value: value}
}

// manyAtoms: so many, rising.
func manyAtoms(count int) []api.Atom {
	var atoms []api.Atom
	for n := range count {
		atoms = append(atoms, atom(n/3, n%3))
	}
	return atoms
}

// plain: a theory of so many literals, without foes and rules.
func plain(lits int) api.Theory {
	return api.Theory{Lits: lits, Foes: make([][]int, lits)}
}

// groundOf: so many plain literals, and behind them one of each guard.
func groundOf(plains int, all ...api.Guard) api.Ground {
	g := api.Ground{Guards: all, Theory: plain(plains + len(all))}
	for n := range plains {
		g.Lits = append(g.Lits, api.Lit{Atom: atom(7, n)})
	}
	for n := range all {
		g.Lits = append(g.Lits, api.Lit{Guard: n + 1})
	}
	return g
}

// house has plain literals (0, 2, 4) and guards' (1, 3, 5), whose numbers do not rise, and guards without a literal (2 and 4).
func house() api.Ground {
	return api.Ground{
		Lits: []api.Lit{{Atom: atom(9, ann)}, {Guard: 3}, {Neg: true, Atom: atom(9, ann)}, {Guard: 1}, {Atom: worth(atom(8), 500)}, {Guard: 5}},
		Guards: []api.Guard{
			guard(api.OpLess, -10000, times(1, atom(income, ann))),
			guard(api.OpEqual, 0, times(2, atom(rate))),
			guard(api.OpMore, 0, times(1, atom(income, ann)), times(-2, atom(rent, ann))),
			guard(api.OpMost, 0),
			guard(api.OpUnequal, -5, times(1, atom(rent, ann)), times(1, atom(shared, ann, ben))),
		},
		Schema: []int{0, 0},
		Theory: api.Theory{
			Lits: 6, Foes: [][]int{{2}, {}, {0}, {}, {}, {}},
			Rules: []api.Rule{{Kind: api.Defeasible, Head: 0, Body: []int{1, 5}}, {Kind: api.Strict, Head: 2, Body: []int{3}}},
			Beats: [][]int{{1}, {}},
		},
	}
}

// houseAtoms: those of house's guards, by their first places.
func houseAtoms() []api.Atom {
	return []api.Atom{atom(income, ann), atom(rate), atom(rent, ann), atom(shared, ann, ben)}
}

// told: as much of it as a reader wants to see.
func told(thing any) string {
	return fmt.Sprintf("%.600s", fmt.Sprintf("%+v", thing))
}

func alikeAtoms(a, b api.Atom) bool {
	return a.Pred == b.Pred && slices.Equal(a.Args, b.Args) && a.Value == b.Value
}

func alikeNumbers(a, b api.Number) bool {
	return alikeAtoms(a.Atom, b.Atom) && a.Value == b.Value
}

func newStore(t testing.TB, g api.Ground) *facts.Store {
	t.Helper()
	s, errno := facts.New(g)
	if errno != api.OK || s == nil {
		t.Fatalf("P18.1: New(%s): %v, %d", told(g), s, errno)
	}
	return s
}

func wantRefused(t testing.TB, what string, g api.Ground) {
	t.Helper()
	if s, errno := facts.New(g); errno != api.ErrArg || s != nil {
		t.Errorf("P18.1: %s: New(%s): %v, %d, want nil, %d", what, told(g), s, errno, api.ErrArg)
	}
}

func wantAdd(t testing.TB, s *facts.Store, lit int, errno api.Errno) {
	t.Helper()
	if got := s.Add(lit); got != errno {
		t.Errorf("P18.1: Add(%d): %d, want %d", lit, got, errno)
	}
}

func wantRemove(t testing.TB, s *facts.Store, lit int, errno api.Errno) {
	t.Helper()
	if got := s.Remove(lit); got != errno {
		t.Errorf("P18.1: Remove(%d): %d, want %d", lit, got, errno)
	}
}

func wantPut(t testing.TB, s *facts.Store, a api.Atom, v api.Money, came, went []int, errno api.Errno) {
	t.Helper()
	if gotCame, gotWent, got := s.Put(a, v); got != errno || !slices.Equal(gotCame, came) || !slices.Equal(gotWent, went) {
		t.Errorf("P18.2: Put(%v, %d): %v, %v, %d, want %v, %v, %d", a, v, gotCame, gotWent, got, came, went, errno)
	}
}

func wantTake(t testing.TB, s *facts.Store, a api.Atom, came, went []int, errno api.Errno) {
	t.Helper()
	if gotCame, gotWent, got := s.Take(a); got != errno || !slices.Equal(gotCame, came) || !slices.Equal(gotWent, went) {
		t.Errorf("P18.2: Take(%v): %v, %v, %d, want %v, %v, %d", a, gotCame, gotWent, got, came, went, errno)
	}
}

// wantFacts: by Facts, and by Has.
func wantFacts(t testing.TB, s *facts.Store, want ...int) {
	t.Helper()
	if got := s.Facts(); !slices.Equal(got, want) {
		t.Errorf("P18.3: Facts: %s, want %s", told(got), told(want))
	}
	top := 10
	if len(want) > 0 {
		top += want[len(want)-1]
	}
	for lit := -2; lit <= top; lit++ {
		if _, there := slices.BinarySearch(want, lit); s.Has(lit) != there {
			t.Errorf("P18.3: Has(%d): %t", lit, !there)
		}
	}
}

// wantNumbers: by Numbers, and by Value.
func wantNumbers(t testing.TB, s *facts.Store, want ...api.Number) {
	t.Helper()
	if got := s.Numbers(); !slices.EqualFunc(got, want, alikeNumbers) {
		t.Errorf("P18.3: Numbers: %s, want %s", told(got), told(want))
	}
	for _, n := range want {
		wantValue(t, s, n.Atom, n.Value, true)
	}
}

func wantValue(t testing.TB, s *facts.Store, a api.Atom, v api.Money, there bool) {
	t.Helper()
	if got, gotThere := s.Value(a); got != v || gotThere != there {
		t.Errorf("P18.3: Value(%v): %d, %t, want %d, %t", a, got, gotThere, v, there)
	}
}

func wantHolds(t testing.TB, g api.Guard, l []api.Number, want bool) {
	t.Helper()
	if got := facts.Holds(g, l); got != want {
		t.Errorf("P18.4: Holds(%+v, %s): %t", g, told(l), got)
	}
}

// wrongGuards: of each way in which a guard may not be one.
func wrongGuards() map[string]api.Guard {
	a, b := atom(income, ann), atom(income, ben)
	one := func(coef int64, a api.Atom) api.Guard { return guard(api.OpMost, 0, times(coef, a)) }
	var many []api.Term
	for _, a := range manyAtoms(17) {
		many = append(many, times(1, a))
	}
	return map[string]api.Guard{
		"no Op": guard(0, 0), "a seventh Op": guard(7, 0), "an Op below 0": guard(-1, 0),
		"a Coef of 0": one(0, a), "too great a Coef": one(greatestCoef+1, a), "too low a Coef": one(-greatestCoef-1, a),
		"a Pred below 0": one(1, atom(-1)), "an argument below 0": one(1, atom(income, 0, -1)), "five arguments": one(1, atom(income, 0, 0, 0, 0, 0)),
		"a Value": one(1, worth(a, 1)), "a Value below 0": one(1, worth(a, -1)),
		"falling": guard(api.OpMost, 0, times(1, b), times(1, a)), "an atom twice": guard(api.OpMost, 0, times(1, a), times(1, a)),
		"seventeen terms":   guard(api.OpLeast, 0, many...),
		"too great a Const": guard(api.OpMore, greatestConst+1), "too low a Const": guard(api.OpLess, -greatestConst-1),
	}
}

// TestGreatest: the document's numbers are those of api and money; what guards refuses is refused there.
func TestGreatest(t *testing.T) {
	if greatestCoef != 2*api.MaxTerms*api.MaxCoef || greatestConst != 2*api.MaxTerms*money.Most || most != money.Most {
		t.Errorf("the greatest numbers are %d, %d, %d", 2*api.MaxTerms*api.MaxCoef, int64(2*api.MaxTerms*money.Most), int64(money.Most))
	}
	for what, g := range wrongGuards() {
		if errno := guards.Check(g); errno != api.ErrGuard {
			t.Errorf("%s: %d", what, errno)
		}
	}
}
