package variants_test

import (
	"slices"
	"testing"

	"lexprior/api"
	"lexprior/naive"
)

// inclusion: what has the bit of the one list has the bit of the other.
type inclusion struct {
	what             string
	less, more       []api.Marks
	lessBit, moreBit api.Marks
}

// inclusions: all six, of which bit of which list.
func (a answered) inclusions() []inclusion {
	return []inclusion{
		{"+D is +v", a.propagated, a.propagated, 1, 4},
		{"+v is +d", a.propagated, a.defeasible, 4, 4},
		{"+d is +s", a.defeasible, a.supported, 4, 4},
		{"-s is -d", a.supported, a.defeasible, 8, 8},
		{"-d is -v", a.defeasible, a.propagated, 8, 8},
		{"-v is -D", a.propagated, a.propagated, 8, 2},
	}
}

// besideNaive: the same, with what the naive engine says.
func (a answered) besideNaive(t testing.TB, x api.Theory, facts []int) answered {
	t.Helper()
	list, errno := naive.Solve(x, facts)
	if errno != api.OK || len(list) != x.Lits {
		t.Fatalf("Solve(%s, %s): %s, %d", told(x), told(facts), told(list), errno)
	}
	return answered{a.propagated, list, a.supported}
}

// wantIncluded: P17.2. Where the other list has it alone is counted.
func wantIncluded(t testing.TB, x api.Theory, facts []int, a answered, seen tally) {
	t.Helper()
	for _, i := range a.inclusions() {
		for lit := range x.Lits {
			switch less, more := i.less[lit]&i.lessBit != 0, i.more[lit]&i.moreBit != 0; {
			case less && !more:
				t.Errorf("P17.2: of %s and %s: %s, but %d has the one alone: %+v", told(x), told(facts), i.what, lit, a)
				return
			case more && !less:
				seen[i.what+", not the other way"]++
			}
		}
	}
	for lit := range x.Lits {
		if a.propagated[lit]&3 != a.defeasible[lit]&3 || a.supported[lit]&3 != a.defeasible[lit]&3 {
			t.Errorf("P17.1: of %s and %s the logics say unlike +D or -D of %d: %+v", told(x), told(facts), lit, a)
		}
	}
}

// wantCoherent: P17.3: no two tags of a kind, and no other bits.
func wantCoherent(t testing.TB, x api.Theory, facts []int, a answered, seen tally) {
	t.Helper()
	for what, list := range map[string][]api.Marks{"propagated: ": a.propagated, "supported: ": a.supported} {
		for lit, said := range list {
			if said&3 == 3 || said&12 == 12 || said > 15 {
				t.Errorf("P17.3: of %s and %s, %s %d has the marks %d", told(x), told(facts), what, lit, said)
			}
			seen[what+told(said)]++
		}
	}
	for one, foes := range x.Foes {
		for _, other := range foes {
			switch both := a.propagated[one] & a.propagated[other]; {
			case both&5 == 4:
				t.Errorf("P17.3: of %s and %s the foes %d and %d both have +v, but not +D: %+v", told(x), told(facts), one, other, a)
			case both&4 != 0:
				seen["foes with +v and +D"]++
			case a.supported[one]&a.supported[other]&5 == 4:
				seen["foes with +s without +D"]++
			}
		}
	}
}

// wantTheorems: all that follows of one theory and facts.
func wantTheorems(t testing.TB, x api.Theory, facts []int) {
	t.Helper()
	a := asked(t, x, facts)
	wantIncluded(t, x, facts, a, tally{})
	wantIncluded(t, x, facts, a.besideNaive(t, x, facts), tally{})
	wantCoherent(t, x, facts, a, tally{})
	if calm(x, facts) {
		wantSame(t, x, facts, a)
	}
}

// calm: no two rules' heads are in conflict, and no literal with a rule has a foe that is a fact.
func calm(x api.Theory, facts []int) bool {
	for _, rule := range x.Rules {
		for _, other := range x.Rules {
			if slices.Contains(x.Foes[rule.Head], other.Head) {
				return false
			}
		}
		for _, fact := range facts {
			if slices.Contains(x.Foes[rule.Head], fact) {
				return false
			}
		}
	}
	return true
}

func wantSame(t testing.TB, x api.Theory, facts []int, a answered) {
	t.Helper()
	if !slices.Equal(a.propagated, a.defeasible) || !slices.Equal(a.supported, a.defeasible) {
		t.Errorf("P17.4: of %s and %s: %+v", told(x), told(facts), a)
	}
}

func TestInclusionTheorem(t *testing.T) {
	t.Parallel()
	m := newMaker(171)
	seen := tally{}
	for range 20000 {
		x := m.any()
		facts := m.some(pick(m, 0, 2, 5), x.Lits)
		a := asked(t, x, facts)
		wantIncluded(t, x, facts, a, seen)
		wantIncluded(t, x, facts, a.besideNaive(t, x, facts), seen)
		if t.Failed() {
			return
		}
	}
	for _, i := range (answered{}).inclusions() {
		seen.want(t, 400, i.what+", not the other way")
	}
}

func TestCoherentAndConsistent(t *testing.T) {
	t.Parallel()
	m := newMaker(172)
	seen := tally{}
	for range 20000 {
		x := m.any()
		facts := m.some(pick(m, 0, 2, 5), x.Lits)
		wantCoherent(t, x, facts, asked(t, x, facts), seen)
		if t.Failed() {
			return
		}
	}
	seen.want(t, 1000, "foes with +v and +D", "foes with +s without +D")
	for _, said := range marks(held, won, lost, open, loose, none) {
		seen.want(t, 100, "propagated: "+told(said), "supported: "+told(said))
	}
}

// calmed: of a theory and facts as many as leave nothing in conflict.
func (m *maker) calmed(x api.Theory, facts []int) (api.Theory, []int) {
	y := plain(x.Lits)
	y.Foes = x.Foes
	for _, r := range m.chance.Perm(len(x.Rules)) {
		y.Rules = append(y.Rules, x.Rules[r])
		if !calm(y, nil) {
			y.Rules = y.Rules[:len(y.Rules)-1]
		}
	}
	y.Beats = make([][]int, len(y.Rules))
	var some []int
	for _, fact := range facts {
		if calm(y, append(slices.Clone(some), fact)) {
			some = append(some, fact)
		}
	}
	return y, some
}

func TestNothingInConflict(t *testing.T) {
	t.Parallel()
	m := newMaker(173)
	seen := tally{}
	for range 10000 {
		x := m.any()
		y, facts := m.calmed(x, m.some(pick(m, 0, 2, 5), x.Lits))
		a := asked(t, y, facts)
		wantSame(t, y, facts, a)
		if t.Failed() {
			return
		}
		for lit, said := range a.propagated {
			seen[told(said)]++
			if len(y.Foes[lit]) > 0 && said&6 == 6 {
				seen["+v of one that has foes"]++
			}
		}
		if len(y.Rules) < len(x.Rules) {
			seen["rules were in conflict"]++
		}
	}
	for _, said := range marks(held, won, lost, open, loose, none) {
		seen.want(t, 100, told(said))
	}
	seen.want(t, 500, "+v of one that has foes", "rules were in conflict")
}

// TestSomethingInConflict: without the one or the other condition the logics part.
func TestSomethingInConflict(t *testing.T) {
	x := from("2; => 0; 0 # 1")
	wantAlike(t, x, nil, marks(won, lost))
	wantLogics(t, x, lits(1), marks(lost, held), marks(won, held))
	x = from("2; => 0; => 1; 0 # 1")
	wantLogics(t, x, nil, marks(lost, lost), marks(won, won))
	x = from("4; => 0; => 1; 1 => 2; => 3; 0 # 1; 2 # 3")
	wantDefeasible(t, x, nil, marks(lost, lost, lost, won))
	wantLogics(t, x, nil, marks(lost, lost, lost, lost), marks(won, won, won, won))
}

// mapped: what becomes of numbers, rising again.
func mapped(list []int, number []int) []int {
	var other []int
	for _, n := range list {
		insert(&other, number[n])
	}
	return other
}

// renumbered: the same theory with other numbers of literals and of rules.
func renumbered(x api.Theory, lits, rules []int) api.Theory {
	y := plain(x.Lits, make([]api.Rule, len(x.Rules))...)
	for lit, foes := range x.Foes {
		y.Foes[lits[lit]] = mapped(foes, lits)
	}
	for r, rule := range x.Rules {
		y.Rules[rules[r]] = api.Rule{Kind: rule.Kind, Head: lits[rule.Head], Body: mapped(rule.Body, lits)}
		y.Beats[rules[r]] = mapped(x.Beats[r], rules)
	}
	return y
}

// TestOtherNumbers: the least sets hang on no order of literals or rules.
func TestOtherNumbers(t *testing.T) {
	t.Parallel()
	m := newMaker(174)
	for range 5000 {
		x := m.any()
		facts := m.some(5, x.Lits)
		lits, rules := m.chance.Perm(x.Lits), m.chance.Perm(len(x.Rules))
		a, b := asked(t, x, facts), asked(t, renumbered(x, lits, rules), mapped(facts, lits))
		for lit, other := range lits {
			if a.propagated[lit] != b.propagated[other] || a.supported[lit] != b.supported[other] {
				t.Fatalf("P17.1: of %+v and %d: %+v, but with other numbers %d and %d: %+v", x, facts, a, lits, rules, b)
			}
		}
	}
}
