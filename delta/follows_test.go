package delta_test

import (
	"slices"
	"testing"

	"lexprior/api"
	"lexprior/theory"
)

// TestScripts: calls by chance, to engines and their copies, held call by call against marks from scratch.
func TestScripts(t *testing.T) {
	t.Parallel()
	m := newMaker(202)
	seen := tally{}
	for range 3000 {
		pairs := []pair{newPair(t, m.any())}
		for range 40 {
			p := pairs[m.chance.Intn(len(pairs))]
			if len(pairs) < 4 && m.oneIn(15) {
				pairs = append(pairs, p.copied())
				continue
			}
			a := p.step(t, m.call(p.model.theory.Lits))
			seen.count(p, a)
		}
		for _, p := range pairs {
			p.wantAll(t)
		}
		if t.Failed() {
			return
		}
	}
	seen.want(t, 1000, told(api.OK), told(api.ErrArg), told(api.ErrFact), "changes", "no change", "something untouched", "touched and unchanged")
	for _, said := range marks(held, won, lost, open, loose, none) {
		seen.want(t, 300, "outside "+told(said))
	}
}

// count: what there was to be seen behind a call.
func (y tally) count(p pair, a answer) {
	y[told(a.errno)]++
	if a.errno != api.OK {
		return
	}
	for _, said := range p.outsideMarks() {
		y["outside "+told(said)]++
	}
	touched := len(p.model.touched)
	switch {
	case len(a.changes) == 0:
		y["no change"]++
	default:
		y["changes"]++
	}
	if touched < p.model.theory.Lits {
		y["something untouched"]++
	}
	if touched > len(a.changes) {
		y["touched and unchanged"]++
	}
}

// TestLargerScripts: with long chains, and much outside the cones.
func TestLargerScripts(t *testing.T) {
	t.Parallel()
	m := newMaker(203)
	for range 60 {
		p := newPair(t, pick(m, m.theory, m.row, m.stairs)(120, pick(m, 80, 120, 200)))
		for range 30 {
			p.step(t, m.call(p.model.theory.Lits))
		}
	}
}

// all: the theories of three literals, of which the first two are foes, with these rules, by each superiority that they may have.
func all(rules []api.Rule, yield func(x api.Theory)) {
	x := plain(3, rules...)
	enemies(&x, 0, 1)
	var pairs []api.Pair
	for r := range rules {
		for s := range r {
			if rules[r].Head+rules[s].Head == 1 {
				pairs = append(pairs, api.Pair{A: r, B: s})
			}
		}
	}
	ways := 1
	for range pairs {
		ways *= 3
	}
	for way := range ways {
		x.Beats = make([][]int, len(rules))
		for _, pair := range pairs {
			switch way % 3 {
			case 1:
				insert(&x.Beats[pair.A], pair.B)
			case 2:
				insert(&x.Beats[pair.B], pair.A)
			}
			way /= 3
		}
		yield(x)
	}
}

// TestSmallWhole: all theories of two foes and a third literal with two rules that have at most one literal in their bodies; from all facts to all others, by each way that leads there in one call.
func TestSmallWhole(t *testing.T) {
	t.Parallel()
	var rules []api.Rule
	for _, kind := range []api.Arrow{api.Strict, api.Defeasible, api.Defeater} {
		for head := range 3 {
			for _, body := range [][]int{nil, {0}, {1}, {2}} {
				rules = append(rules, rule(kind, head, body...))
			}
		}
	}
	seen := 0
	for a := range rules {
		for b := range a + 1 {
			all([]api.Rule{rules[a], rules[b]}, func(x api.Theory) {
				seen++
				wantEveryChange(t, x)
			})
		}
	}
	if seen < 800 {
		t.Errorf("only %d theories were seen", seen)
	}
}

// wantEveryChange: of a theory of three literals.
func wantEveryChange(t testing.TB, x api.Theory) {
	t.Helper()
	p := newPair(t, x)
	subsets := [][]int{nil, {0}, {1}, {2}, {0, 1}, {0, 2}, {1, 2}, {0, 1, 2}}
	for _, from := range subsets {
		for _, to := range subsets {
			p.step(t, set(from...))
			p.step(t, set(to...))
		}
		for lit := range 3 {
			p.step(t, set(from...))
			p.step(t, add(lit))
			p.step(t, drop(lit))
			p.step(t, drop(lit))
			p.step(t, add(lit))
		}
	}
}

// TestOtherOrders: whatever came and went: engines to which just the facts that are left are added, in any order, or set at one time, say the same.
func TestOtherOrders(t *testing.T) {
	t.Parallel()
	m := newMaker(204)
	for range 600 {
		p := newPair(t, m.any())
		for range m.chance.Intn(30) {
			p.step(t, m.call(p.model.theory.Lits))
		}
		facts := p.engine.Facts()
		for range 3 {
			m.chance.Shuffle(len(facts), func(a, b int) { facts[a], facts[b] = facts[b], facts[a] })
			other := newEngine(t, p.model.theory)
			for _, lit := range facts {
				if _, errno := other.Add(lit); errno != api.OK {
					t.Fatalf("P19.5: Add(%d): %d", lit, errno)
				}
			}
			wantState(t, other, p.model.facts, p.model.marks)
		}
		other := newEngine(t, p.model.theory)
		other.Set(p.model.facts)
		wantState(t, other, p.model.facts, p.model.marks)
		if t.Failed() {
			t.Fatalf("P19.3: of %+v, by the facts %d", p.model.theory, p.model.facts)
		}
	}
}

// TestTwoAdds: they may change places.
func TestTwoAdds(t *testing.T) {
	t.Parallel()
	m := newMaker(205)
	seen := 0
	for range 300 {
		p := newPair(t, m.any())
		p.step(t, set(m.some(4, p.model.theory.Lits)...))
		var others []int
		for lit := range p.model.theory.Lits {
			if !slices.Contains(p.model.facts, lit) {
				others = append(others, lit)
			}
		}
		for _, a := range others {
			for _, b := range others {
				if a >= b {
					continue
				}
				one, other := p.engine.Copy(), p.engine.Copy()
				one.Add(a)
				one.Add(b)
				other.Add(b)
				other.Add(a)
				wantState(t, other, one.Facts(), one.Marks())
				seen++
			}
		}
		if t.Failed() {
			t.Fatalf("P19.5: of %+v, by the facts %d", p.model.theory, p.model.facts)
		}
	}
	if seen < 3000 {
		t.Errorf("only %d pairs were seen", seen)
	}
}

// TestAddAndDrop: one behind the other, of each literal that is no fact (of a fact the other way round): all is as it was, and what was told is told back.
func TestAddAndDrop(t *testing.T) {
	t.Parallel()
	m := newMaker(206)
	changed := 0
	for range 600 {
		p := newPair(t, m.any())
		for range m.chance.Intn(10) {
			p.step(t, m.call(p.model.theory.Lits))
		}
		for lit := range p.model.theory.Lits {
			there, back := add(lit), drop(lit)
			if slices.Contains(p.model.facts, lit) {
				there, back = back, there
			}
			first, second := there.do(p.engine), back.do(p.engine)
			turnedRound := slices.Clone(second.changes)
			for n, change := range turnedRound {
				turnedRound[n].Was, turnedRound[n].Now = change.Now, change.Was
			}
			if first.errno != api.OK || second.errno != api.OK || !slices.Equal(first.changes, turnedRound) {
				t.Fatalf("P19.5: of %+v, by the facts %d: %+v: %+v, and back %+v", p.model.theory, p.model.facts, there, first, second)
			}
			wantState(t, p.engine, p.model.facts, p.model.marks)
			changed += len(first.changes)
		}
		if t.Failed() {
			t.FailNow()
		}
	}
	if changed < 3000 {
		t.Errorf("only %d changes were seen", changed)
	}
}

// TestRefusedCalls: one that answers an error changes nothing, Touched neither.
func TestRefusedCalls(t *testing.T) {
	t.Parallel()
	m := newMaker(207)
	refused := 0
	for range 500 {
		p := newPair(t, m.any())
		for range 10 {
			p.step(t, m.call(p.model.theory.Lits))
		}
		for range 30 {
			c := m.call(p.model.theory.Lits)
			if errno := p.model.fault(c); errno != api.OK {
				wantRefused(t, p.engine, c, errno)
				p.wantAll(t)
				refused++
			}
		}
		if t.Failed() {
			t.FailNow()
		}
	}
	if refused < 5000 {
		t.Errorf("only %d calls were refused", refused)
	}
}

// TestConeAlone: of every literal by itself, what is not in its cone is not touched, and hangs on nothing that is.
func TestConeAlone(t *testing.T) {
	t.Parallel()
	m := newMaker(208)
	untouched := 0
	for range 500 {
		p := newPair(t, m.any())
		p.step(t, set(m.some(4, p.model.theory.Lits)...))
		for lit := range p.model.theory.Lits {
			e := p.engine.Copy()
			if _, errno := e.Add(lit); errno != api.OK {
				e.Drop(lit)
			}
			cone, _ := theory.Cone(p.model.theory, lits(lit))
			if more := without(e.Touched(), cone); len(more) > 0 {
				t.Fatalf("P19.4: of %+v: %d turned: %d was touched", p.model.theory, lit, more)
			}
			untouched += p.model.theory.Lits - len(cone)
		}
	}
	if untouched < 10000 {
		t.Errorf("only %d literals were not touched", untouched)
	}
}
