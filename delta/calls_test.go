package delta_test

import (
	"math"
	"slices"
	"testing"

	"lexprior/api"
	"lexprior/theory"
)

// town has all that a theory can have.
func town() api.Theory {
	return from("6; 0 -> 1; 1 => 2; 3 -> 3; ~> 4; -> 5; 1 5 => 4; 1 # 2; 3 # 4 # 5; 0 > 1; 2 > 3; 2 > 4; 4 > 5")
}

// TestBadTheories: in each of the ways in which theory.Check refuses one.
func TestBadTheories(t *testing.T) {
	refused := func(what string, errno api.Errno, change func(t *api.Theory)) {
		t.Helper()
		x := town()
		change(&x)
		if got, _ := theory.Check(x); got != errno {
			t.Fatalf("%s: Check: %d, want %d", what, got, errno)
		}
		wantNewRefused(t, what, x, errno)
	}
	for _, many := range []int{-1, 4097, math.MinInt, math.MaxInt} {
		refused("Lits", api.ErrLits, func(t *api.Theory) { t.Lits = many })
	}
	refused("fewer lists of foes", api.ErrFoe, func(t *api.Theory) { t.Foes = t.Foes[:5] })
	refused("more lists of foes", api.ErrFoe, func(t *api.Theory) { t.Foes = append(t.Foes, nil) })
	refused("its own foe", api.ErrFoe, func(t *api.Theory) { t.Foes[0] = lits(0) })
	refused("a foe that does not return it", api.ErrFoe, func(t *api.Theory) { t.Foes[0] = lits(1) })
	refused("a foe that there is not", api.ErrFoe, func(t *api.Theory) { t.Foes[0] = lits(6) })
	refused("foes that fall", api.ErrFoe, func(t *api.Theory) { t.Foes[3] = lits(5, 4) })
	refused("too many foes", api.ErrFoe, func(t *api.Theory) {
		*t = plain(66)
		enemies(t, upTo(66)...)
	})
	refused("too many rules", api.ErrGround, func(t *api.Theory) { t.Rules = slices.Repeat(t.Rules[:1], 4097) })
	refused("no kind", api.ErrRule, func(t *api.Theory) { t.Rules[0].Kind = 0 })
	refused("another kind", api.ErrRule, func(t *api.Theory) { t.Rules[0].Kind = 4 })
	refused("a head below 0", api.ErrRule, func(t *api.Theory) { t.Rules[0].Head = -1 })
	refused("a head that there is not", api.ErrRule, func(t *api.Theory) { t.Rules[0].Head = 6 })
	refused("a body that falls", api.ErrRule, func(t *api.Theory) { t.Rules[0].Body = lits(1, 0) })
	refused("a body with what is no literal", api.ErrRule, func(t *api.Theory) { t.Rules[5].Body = lits(6) })
	refused("a body that is too long", api.ErrRule, func(t *api.Theory) { t.Lits, t.Foes, t.Rules[5].Body = 17, make([][]int, 17), upTo(17) })
	refused("too many pairs", api.ErrPairs, func(t *api.Theory) { t.Rules, t.Beats = slices.Repeat(t.Rules[:2], 300), make([][]int, 600) })
	refused("fewer lists of beaten rules", api.ErrBeat, func(t *api.Theory) { t.Beats = nil })
	refused("more lists of beaten rules", api.ErrBeat, func(t *api.Theory) { t.Beats = append(t.Beats, nil) })
	refused("one that is no foe's is beaten", api.ErrBeat, func(t *api.Theory) { t.Beats[1] = lits(4) })
	refused("a rule that there is not is beaten", api.ErrBeat, func(t *api.Theory) { t.Beats[1] = lits(6) })
	refused("a circle of two", api.ErrPriorityCycle, func(t *api.Theory) { t.Beats[1] = lits(0) })
	refused("all at one time", api.ErrLits, func(t *api.Theory) { t.Lits, t.Foes, t.Rules[0].Kind, t.Beats = -1, nil, 0, nil })
}

// TestTheoriesByChance: which may be, and the error of those that may not.
func TestTheoriesByChance(t *testing.T) {
	m := newMaker(201)
	seen := tally{}
	for range 10000 {
		x := m.any()
		m.spoil(&x)
		errno, _ := theory.Check(x)
		seen[told(errno)]++
		if errno != api.OK {
			wantNewRefused(t, "spoilt", x, errno)
			continue
		}
		newPair(t, x)
	}
	for _, errno := range []api.Errno{api.OK, api.ErrLits, api.ErrFoe, api.ErrRule, api.ErrBeat} {
		seen.want(t, 300, told(errno))
	}
}

// TestTown: what is not refused is reckoned.
func TestTown(t *testing.T) {
	e := newEngine(t, town())
	wantState(t, e, nil, marks(lost, lost, lost, none, lost, held))
	wantTouched(t, e)
	wantDone(t, e, add(0), lits(0), marks(held, held, lost, none, lost, held))
	wantTouched(t, e, 0, 1, 2, 3, 4, 5)
	wantDone(t, e, add(3), lits(0, 3), marks(held, held, lost, held, lost, held))
	wantTouched(t, e, 3, 4, 5)
	wantDone(t, e, drop(0), lits(3), marks(lost, lost, lost, held, lost, held))
	wantDone(t, e, set(1, 4), lits(1, 4), marks(lost, held, lost, none, held, held))
	wantTouched(t, e, 1, 2, 3, 4, 5)
}

// TestNoLiterals: a theory without any.
func TestNoLiterals(t *testing.T) {
	for _, x := range []api.Theory{{}, {Foes: [][]int{}, Rules: []api.Rule{}, Beats: [][]int{}}} {
		e := newEngine(t, x)
		c := e.Copy()
		if c == nil {
			t.Fatal("P19.2: Copy of an engine without literals: nil")
		}
		for _, e := range []interface {
			Facts() []int
			Marks() []api.Marks
			Touched() []int
		}{e, c} {
			if len(e.Facts())+len(e.Marks())+len(e.Touched()) > 0 {
				t.Errorf("P19.2: %v, %v, %v", e.Facts(), e.Marks(), e.Touched())
			}
		}
		for _, lit := range lits(0, 1, -1, math.MaxInt, math.MinInt) {
			wantRefused(t, e, add(lit), api.ErrArg)
			wantRefused(t, e, drop(lit), api.ErrArg)
			wantRefused(t, e, set(lit), api.ErrFact)
		}
		wantDone(t, e, set(), nil, nil)
		wantDone(t, e, call{verb: setting, facts: []int{}}, nil, nil)
		wantTouched(t, e)
	}
}

// TestNoLiteral: numbers below the first, past the last, whatever the facts.
func TestNoLiteral(t *testing.T) {
	e := newEngine(t, town())
	for _, facts := range [][]int{nil, {0}, {0, 5}, upTo(6)} {
		e.Set(facts)
		for _, lit := range lits(-1, -2, 6, 7, 4095, 4096, math.MinInt, math.MaxInt, 1<<32, 1<<32+1) {
			wantRefused(t, e, add(lit), api.ErrArg)
			wantRefused(t, e, drop(lit), api.ErrArg)
		}
	}
}

// TestTwice: added twice, dropped twice, or dropped when it is no fact; of each literal.
func TestTwice(t *testing.T) {
	for lit := range 6 {
		e := newEngine(t, town())
		wantRefused(t, e, drop(lit), api.ErrFact)
		wantDone(t, e, add(lit), lits(lit), solved(t, town(), lits(lit)))
		wantRefused(t, e, add(lit), api.ErrFact)
		wantRefused(t, e, add(lit), api.ErrFact)
		for other := range 6 {
			if other != lit {
				wantRefused(t, e, drop(other), api.ErrFact)
			}
		}
		wantDone(t, e, drop(lit), nil, solved(t, town(), nil))
		wantRefused(t, e, drop(lit), api.ErrFact)
		wantDone(t, e, add(lit), lits(lit), solved(t, town(), lits(lit)))
	}
}

// TestBadFacts: Set of what theory.CheckFacts refuses.
func TestBadFacts(t *testing.T) {
	e := newEngine(t, town())
	for _, facts := range [][]int{nil, {1, 3}, upTo(6)} {
		e.Set(facts)
		for _, bad := range [][]int{{-1}, {6}, {0, 0}, {1, 0}, {0, 1, 2, 2}, {0, 6}, {-1, 0}, {math.MaxInt}, {math.MinInt}, upTo(7), {0, 2, 1, 3}, make([]int, 5000)} {
			wantRefused(t, e, set(bad...), api.ErrFact)
		}
	}
}

// TestSet: of none, of the same facts again, of others, of more, of fewer, of all literals; and Add and Drop between.
func TestSet(t *testing.T) {
	e := newEngine(t, town())
	want := func(c call, facts []int, touched ...int) {
		t.Helper()
		wantDone(t, e, c, facts, solved(t, town(), facts))
		wantTouched(t, e, touched...)
	}
	want(set(), nil)
	want(set(0, 3), lits(0, 3), 0, 1, 2, 3, 4, 5)
	want(set(0, 3), lits(0, 3))
	want(set(0, 2), lits(0, 2), 1, 2, 3, 4, 5)
	want(set(0, 2, 3), lits(0, 2, 3), 3, 4, 5)
	want(set(0), lits(0), 1, 2, 3, 4, 5)
	want(add(5), lits(0, 5), 3, 4, 5)
	want(set(0, 5), lits(0, 5))
	want(set(upTo(6)...), upTo(6), 1, 2, 3, 4, 5)
	want(set(upTo(6)...), upTo(6))
	want(drop(4), lits(0, 1, 2, 3, 5), 3, 4, 5)
	want(set(), nil, upTo(6)...)
	want(set(), nil)
}

// TestOrderOfErrors: an engine that no New made is told ahead of what is asked; no literal ahead of no fact, which it is as well.
func TestOrderOfErrors(t *testing.T) {
	for _, c := range []call{add(0), add(-1), drop(0), drop(9), set(), set(0), set(1, 0)} {
		if got := c.do(nil); !got.is(answer{errno: api.ErrMade}) {
			t.Errorf("P19.1: %+v of a nil engine: %+v", c, got)
		}
	}
	e := newEngine(t, plain(2))
	wantRefused(t, e, drop(2), api.ErrArg)
	wantRefused(t, e, drop(1), api.ErrFact)
}

// TestTouched: ahead of the first call, behind one that was refused, behind a Set that changed nothing, and behind one that changed no mark.
func TestTouched(t *testing.T) {
	e := newEngine(t, from("5; -> 1; 1 -> 2; 2 3 => 4"))
	wantTouched(t, e)
	wantRefused(t, e, drop(3), api.ErrFact)
	wantRefused(t, e, add(5), api.ErrArg)
	wantTouched(t, e)
	wantDone(t, e, set(), nil, marks(lost, held, held, lost, lost))
	wantTouched(t, e)
	wantDone(t, e, add(3), lits(3), marks(lost, held, held, held, won))
	wantTouched(t, e, 3, 4)
	wantRefused(t, e, add(3), api.ErrFact)
	wantRefused(t, e, drop(-1), api.ErrArg)
	wantRefused(t, e, set(4, 3), api.ErrFact)
	wantTouched(t, e, 3, 4)
	wantDone(t, e, set(3), lits(3), marks(lost, held, held, held, won))
	wantTouched(t, e)
	wantRefused(t, e, add(3), api.ErrFact)
	wantTouched(t, e)
	changes, errno := e.Add(1)
	if errno != api.OK || len(changes) > 0 {
		t.Errorf("P19.1: a fact that a strict rule concludes: %v, %d", changes, errno)
	}
	if more := without(e.Touched(), lits(1, 2, 4)); len(more) > 0 {
		t.Errorf("P19.4: Touched: %v", e.Touched())
	}
	wantState(t, e, lits(1, 3), marks(lost, held, held, held, won))
	wantDone(t, e, drop(3), lits(1), marks(lost, held, held, lost, lost))
	wantTouched(t, e, 3, 4)
}
