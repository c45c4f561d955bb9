package prior_test

import (
	"slices"
	"testing"

	"lexprior/api"
	"lexprior/prior"
	"lexprior/theory"
)

// TestJustThen: P13.4: a cycle is told just if the relation of all Prevails between foes has one.
func TestJustThen(t *testing.T) {
	t.Parallel()
	m := newMaker(141)
	round, straight := 0, 0
	for range 3000 {
		schemas := 1 + m.chance.Intn(8)
		s, g := m.statute(schemas, m.chance.Intn(9)), m.ground(6, 9, schemas)
		beats := make([][]int, len(g.Schema))
		for a, one := range g.Theory.Rules {
			for b, other := range g.Theory.Rules {
				over, errno := prior.Prevails(s, g.Schema[a], g.Schema[b])
				if errno != api.OK {
					t.Fatalf("P13.1: Prevails(%s, %d, %d): %d", told(s), g.Schema[a], g.Schema[b], errno)
				}
				if over && slices.Contains(g.Theory.Foes[one.Head], other.Head) {
					beats[a] = append(beats[a], b)
				}
			}
		}
		built, errno, cycle := prior.Build(s, g)
		is := hasCycle(beats)
		if is != (errno == api.ErrPriorityCycle) || is != (len(cycle) > 0) || is && !isCycle(beats, cycle) || !is && !same(built.Theory.Beats, beats) {
			t.Fatalf("P13.4: Build(%s, %s): %s, %d, %d, where rules beat %d", told(s), told(g), told(built), errno, cycle, beats)
		}
		if _, there := prior.Cycle(beats); there != is {
			t.Fatalf("P13.4: Cycle(%d): %t", beats, there)
		}
		if is {
			round++
		} else {
			straight++
		}
	}
	if round < 300 || straight < 300 {
		t.Errorf("only %d have a cycle, and %d have none", round, straight)
	}
}

// TestWithoutExceptions: P13.5: there is no cycle, all heads in conflict or not.
func TestWithoutExceptions(t *testing.T) {
	t.Parallel()
	m := newMaker(142)
	for range 3000 {
		schemas := 1 + m.chance.Intn(12)
		s := m.statute(schemas, 0)
		for _, g := range []api.Ground{inConflict(schemas), m.ground(6, 12, schemas)} {
			built, errno, cycle := prior.Build(s, g)
			if errno != api.OK || len(cycle) > 0 {
				t.Fatalf("P13.5: Build(%s, %s): %d, %d", told(s), told(g), errno, cycle)
			}
			if order, ok := prior.Order(built.Theory.Beats); !ok || len(order) != len(g.Schema) {
				t.Fatalf("P13.5: Order(%d): %d, %t", built.Theory.Beats, order, ok)
			}
		}
	}
}

// conflicting: have two schemas rules in the ground whose heads are foes?
func conflicting(g api.Ground, a, b int) bool {
	for r, one := range g.Theory.Rules {
		for o, other := range g.Theory.Rules {
			if g.Schema[r] == a && g.Schema[o] == b && slices.Contains(g.Theory.Foes[one.Head], other.Head) {
				return true
			}
		}
	}
	return false
}

// TestExceptionsWithoutConflict: P13.6: they change nothing, cycle or not.
func TestExceptionsWithoutConflict(t *testing.T) {
	t.Parallel()
	m := newMaker(143)
	added := 0
	for range 2000 {
		schemas := 2 + m.chance.Intn(6)
		s, g := m.statute(schemas, m.chance.Intn(4)), m.ground(9, 6, schemas)
		more := s
		for a := range schemas {
			for b := range schemas {
				one := excepted(more, api.Pair{A: a, B: b})
				if !conflicting(g, a, b) && !slices.Contains(s.Excepts, one.Excepts[len(more.Excepts)]) {
					more = one
					added++
				}
			}
		}
		wantTaken(t, more)
		was, errno, cycle := prior.Build(s, g)
		now, errnoNow, cycleNow := prior.Build(more, g)
		if errno != errnoNow || !same(was, now) || len(cycle) > 0 != (len(cycleNow) > 0) {
			t.Fatalf("P13.6: of %s Build(%s): %d, %s, with %s: %d, %s", told(g), told(s.Excepts), errno, told(was), told(more.Excepts), errnoNow, told(now))
		}
	}
	if added < 5000 {
		t.Errorf("only %d exceptions were added", added)
	}
}

// TestCheckTakesIt: P13.6: of what Build answers.
func TestCheckTakesIt(t *testing.T) {
	t.Parallel()
	m := newMaker(144)
	taken := 0
	for range 1000 {
		s := parsed(t, m.text(1+m.chance.Intn(8), m.chance.Intn(4)))
		g, errno, _ := prior.Build(s, grounded(t, s))
		if errno != api.OK {
			continue
		}
		taken++
		if errno, at := theory.Check(g.Theory); errno != api.OK {
			t.Fatalf("P13.6: theory.Check(%s): %d, %d", told(g.Theory), errno, at)
		}
	}
	if taken < 300 {
		t.Errorf("only %d were built", taken)
	}
}

// TestOneOfTwo: P13.7: not both prevail, but where both are declared, or a rule to itself.
func TestOneOfTwo(t *testing.T) {
	t.Parallel()
	m := newMaker(145)
	both := 0
	for range 1500 {
		s := m.statute(1+m.chance.Intn(5), m.chance.Intn(12))
		for a := range s.Rules {
			for b := range s.Rules {
				over, _ := prior.Prevails(s, a, b)
				under, _ := prior.Prevails(s, b, a)
				one := slices.Contains(s.Excepts, api.Exception{Over: s.Rules[a].Name, Under: s.Rules[b].Name})
				other := slices.Contains(s.Excepts, api.Exception{Over: s.Rules[b].Name, Under: s.Rules[a].Name})
				if (over && under) != (one && other) {
					t.Fatalf("P13.7: of %s Prevails(%d, %d): %t, the other way round %t", told(s), a, b, over, under)
				}
				if over && under {
					both++
				}
			}
		}
	}
	if both < 500 {
		t.Errorf("only %d times both prevail", both)
	}
}

// TestRightOrder: P13.7: each place once, ahead of those that it beats; no lower one could have stood there.
func TestRightOrder(t *testing.T) {
	t.Parallel()
	m := newMaker(146)
	for range 3000 {
		beats := m.ordered(30, pick(m, 1, 3, 9))
		order, ok := prior.Order(beats)
		turn := make([]int, len(beats))
		for n, place := range order {
			turn[place] = n
		}
		if sorted := slices.Sorted(slices.Values(order)); !ok || !slices.Equal(sorted, upTo(len(beats))) {
			t.Fatalf("P13.7: Order(%d): %d, %t", beats, order, ok)
		}
		awaits := make([]int, len(beats)) // the turn from which on a place may stand
		for place, list := range beats {
			for _, other := range list {
				if !isPlace(other, len(beats)) {
					continue
				}
				if turn[place] >= turn[other] {
					t.Fatalf("P13.7: Order(%d): %d, where %d beats %d", beats, order, place, other)
				}
				awaits[other] = max(awaits[other], turn[place]+1)
			}
		}
		for n, place := range order {
			for _, lower := range order[n+1:] {
				if lower < place && awaits[lower] <= n {
					t.Fatalf("P13.3: Order(%d): %d, where %d could stand ahead of %d", beats, order, lower, place)
				}
			}
		}
	}
}
