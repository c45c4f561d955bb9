package facts_test

import (
	"slices"
	"testing"

	"lexprior/api"
	"lexprior/facts"
)

// pair is a store with its model.
type pair struct {
	store *facts.Store
	model *model
}

// newPair: of a ground statute that may be.
func (m *maker) newPair(t testing.TB) pair {
	t.Helper()
	g := m.ground()
	return pair{newStore(t, g), &model{ground: g}}
}

// step does a call to both, and holds them against each other; what Put and Take tell is held against Facts, too.
func (p pair) step(t testing.TB, c call) answer {
	t.Helper()
	was := p.store.Facts()
	got, want := c.do(p.store), p.model.do(c)
	if !got.is(want) {
		t.Fatalf("P18.1, P18.2: of %s, behind %s, %s: %+v: %+v, want %+v", told(p.model.ground), told(p.model.added), told(p.model.numbers), c, got, want)
	}
	now := p.store.Facts()
	changed := slices.Concat(without(now, was), without(was, now))
	if c.verb >= putting && !slices.Equal(changed, slices.Concat(got.came, got.went)) {
		t.Fatalf("P18.6: %+v tells %+v, but the facts were %v and are %v", c, got, was, now)
	}
	if got.errno != api.OK && len(changed) > 0 {
		t.Fatalf("P18.7: %+v is refused, but the facts were %v and are %v", c, was, now)
	}
	return got
}

// TestScripts: calls by chance, to stores and their copies, held call by call against the plain reading.
func TestScripts(t *testing.T) {
	m := newMaker(181)
	errnos, came, went := map[api.Errno]int{}, 0, 0
	for range 1500 {
		pairs := []pair{m.newPair(t)}
		wantAll(t, pairs[0].store, pairs[0].model)
		for range 60 {
			p := pairs[m.chance.Intn(len(pairs))]
			if len(pairs) < 4 && m.oneIn(15) {
				pairs = append(pairs, pair{p.store.Copy(), p.model.copied()})
				continue
			}
			a := p.step(t, m.call(len(p.model.ground.Lits)))
			errnos[a.errno]++
			came, went = came+len(a.came), went+len(a.went)
			wantAll(t, p.store, p.model)
		}
		for _, p := range pairs {
			wantAll(t, p.store, p.model)
		}
		if t.Failed() {
			t.FailNow()
		}
	}
	for _, errno := range []api.Errno{api.OK, api.ErrLit, api.ErrFact, api.ErrGuard, api.ErrOver} {
		if errnos[errno] < 300 {
			t.Errorf("only %d calls answered %d", errnos[errno], errno)
		}
	}
	if came < 4000 || went < 2000 {
		t.Errorf("only %d facts came, %d went", came, went)
	}
}

// TestGroundsByChance: which may be.
func TestGroundsByChance(t *testing.T) {
	m := newMaker(182)
	may, not := 0, 0
	for range 4000 {
		g := m.ground()
		m.spoil(&g)
		if !modelMay(g) {
			not++
			wantRefused(t, "spoilt", g)
			continue
		}
		may++
		wantAll(t, newStore(t, g), &model{ground: g})
	}
	if may < 500 || not < 1000 {
		t.Errorf("%d may be, %d may not", may, not)
	}
}

// TestHoldsByChance: of any numbers in any order, some of one atom twice.
func TestHoldsByChance(t *testing.T) {
	m := newMaker(183)
	held := 0
	for range 20000 {
		g := m.guard()
		if m.oneIn(6) {
			m.spoilGuard(&g)
		}
		var l []api.Number
		for range m.chance.Intn(25) {
			l = append(l, number(m.anyAtom(), pick(m, m.value(), api.Money(m.chance.Uint64()))))
		}
		want := modelHolds(g, l)
		wantHolds(t, g, l, want)
		if want {
			held++
		}
	}
	if held < 3000 {
		t.Errorf("only %d held", held)
	}
}

// TestOrderOfCalls: the facts hang on what was added and not removed, and on the last numbers: a store to which just these are said, in any order, is the same.
func TestOrderOfCalls(t *testing.T) {
	m := newMaker(184)
	for range 500 {
		p := m.newPair(t)
		for range m.chance.Intn(80) {
			p.step(t, m.call(len(p.model.ground.Lits)))
		}
		var calls []call
		for _, lit := range p.model.added {
			calls = append(calls, call{verb: adding, lit: lit})
		}
		for _, n := range p.model.numbers {
			calls = append(calls, call{verb: putting, atom: n.Atom, value: n.Value})
		}
		for range 3 {
			m.chance.Shuffle(len(calls), func(a, b int) { calls[a], calls[b] = calls[b], calls[a] })
			other := newStore(t, p.model.ground)
			for _, c := range calls {
				if a := c.do(other); a.errno != api.OK {
					t.Fatalf("P18.5: %+v: %+v", c, a)
				}
			}
			if !slices.Equal(other.Facts(), p.store.Facts()) || !slices.EqualFunc(other.Numbers(), p.store.Numbers(), alikeNumbers) {
				t.Fatalf("P18.5: of %s: facts %v, in another order %v", told(p.model.ground), p.store.Facts(), other.Facts())
			}
		}
	}
}

// TestCallsTurnedRound: two stores have the same calls, which touch unlike literals and atoms, in one order and in the other.
func TestCallsTurnedRound(t *testing.T) {
	m := newMaker(185)
	for range 500 {
		g := m.ground()
		one, other := newStore(t, g), newStore(t, g)
		var calls []call
		for lit := range g.Lits {
			calls = append(calls, call{verb: adding, lit: lit})
		}
		for _, a := range (&model{ground: g}).atoms() {
			calls = append(calls, call{verb: putting, atom: a, value: m.value()})
		}
		for n := range calls {
			calls[n].do(one)
			calls[len(calls)-1-n].do(other)
		}
		if !slices.Equal(one.Facts(), other.Facts()) || !slices.EqualFunc(one.Numbers(), other.Numbers(), alikeNumbers) {
			t.Fatalf("P18.5: of %s: facts %v, turned round %v", told(g), one.Facts(), other.Facts())
		}
	}
}

// TestPutAndTake: one behind the other, of an atom without a number: all is as it was, and what came goes, what went comes.
func TestPutAndTake(t *testing.T) {
	m := newMaker(186)
	seen := 0
	for range 500 {
		p := m.newPair(t)
		for range m.chance.Intn(30) {
			p.step(t, m.call(len(p.model.ground.Lits)))
		}
		for _, a := range p.model.atoms() {
			if placeOf(p.model.numbers, a) >= 0 {
				continue
			}
			was, numbers := p.store.Facts(), p.store.Numbers()
			put := call{verb: putting, atom: a, value: m.value()}.do(p.store)
			took := call{verb: taking, atom: a}.do(p.store)
			if put.errno != api.OK || took.errno != api.OK || !slices.Equal(put.came, took.went) || len(put.went)+len(took.came) > 0 {
				t.Fatalf("P18.8: Put(%v): %+v, then Take: %+v", a, put, took)
			}
			if !slices.Equal(p.store.Facts(), was) || !slices.EqualFunc(p.store.Numbers(), numbers, alikeNumbers) {
				t.Fatalf("P18.8: the facts were %v, are %v", was, p.store.Facts())
			}
			seen += len(put.came)
		}
	}
	if seen < 300 {
		t.Errorf("only %d facts came", seen)
	}
}

// TestSameNumberAgain: changes nothing; another one in between, and back, tells the same the other way round.
func TestSameNumberAgain(t *testing.T) {
	m := newMaker(187)
	seen := 0
	for range 500 {
		p := m.newPair(t)
		for _, a := range p.model.atoms() {
			p.step(t, call{verb: putting, atom: a, value: m.value()})
		}
		for _, n := range p.store.Numbers() {
			if again := (call{verb: putting, atom: n.Atom, value: n.Value}).do(p.store); !again.is(answer{}) {
				t.Fatalf("P18.6: Put of the same number %v: %+v", n, again)
			}
			was := p.store.Facts()
			there := call{verb: putting, atom: n.Atom, value: m.value()}.do(p.store)
			back := call{verb: putting, atom: n.Atom, value: n.Value}.do(p.store)
			if !slices.Equal(there.came, back.went) || !slices.Equal(there.went, back.came) || !slices.Equal(p.store.Facts(), was) {
				t.Fatalf("P18.6: there %+v, and back %+v", there, back)
			}
			seen += len(there.came) + len(there.went)
		}
	}
	if seen < 500 {
		t.Errorf("only %d facts changed", seen)
	}
}

// TestRefused: every call that is refused leaves all as it was.
func TestRefused(t *testing.T) {
	m := newMaker(188)
	for range 300 {
		p := m.newPair(t)
		for range 20 {
			p.step(t, m.call(len(p.model.ground.Lits)))
		}
		for range 40 {
			c := m.call(len(p.model.ground.Lits))
			if p.model.fault(c) == api.OK {
				continue
			}
			if a := c.do(p.store); a.errno == api.OK || len(a.came)+len(a.went) > 0 {
				t.Fatalf("P18.7: %+v: %+v", c, a)
			}
			wantAll(t, p.store, p.model)
		}
		if t.Failed() {
			t.FailNow()
		}
	}
}
