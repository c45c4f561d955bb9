package prior_test

import (
	"slices"
	"testing"

	"lexprior/api"
)

// ring: rules of the schemas 0, 1, .., of which each is in conflict with the next alone, and the last with the first.
func ring(many int) api.Ground {
	var foes [][]int
	for n := range many {
		foes = append(foes, []int{n, (n + 1) % many})
	}
	return heads(upTo(many), foes...)
}

// wantAmong: a circle of just these rules is told.
func wantAmong(t *testing.T, s api.Statute, g api.Ground, rules ...int) {
	t.Helper()
	if cycle := wantRound(t, s, g); !slices.Equal(slices.Sorted(slices.Values(cycle)), rules) {
		t.Errorf("P13.4: Build(%s, %s) tells %s, want a circle of %s", told(s), told(g), told(cycle), told(rules))
	}
}

// TestCirclesOfTwo: exceptions to each other, or of one to itself of which both rules are.
func TestCirclesOfTwo(t *testing.T) {
	both := []api.Pair{{A: 0, B: 1}, {A: 1, B: 0}}
	wantAmong(t, law([]schema{{1, 1}, {1, 1}}, both...), inConflict(2), 0, 1)
	wantAmong(t, law([]schema{{9, 1}, {1, 5}}, both...), inConflict(2), 0, 1)
	itself := inConflict(2)
	itself.Schema = []int{0, 0}
	wantAmong(t, law([]schema{{1, 1}}, api.Pair{A: 0, B: 0}), itself, 0, 1)
	for _, one := range both {
		wantRing(t, law([]schema{{1, 1}, {1, 1}}, one), inConflict(2), false)
	}
}

// wantRing: is there a circle?
func wantRing(t *testing.T, s api.Statute, g api.Ground, is bool) {
	t.Helper()
	if is {
		wantAmong(t, s, g, upTo(len(g.Schema))...)
	} else {
		wantBuilt(t, s, g, modelBeats(s, g))
	}
}

// TestCirclesOfMany: each schema is later than the next, and the last an exception to the first; or each is an exception to the one ahead.
func TestCirclesOfMany(t *testing.T) {
	for _, many := range []int{3, 4, 5, 6, 17, 64, 200, 512} {
		s := later(many)
		wantRing(t, s, ring(many), false)
		wantRing(t, excepted(s, api.Pair{A: many - 1, B: 0}), ring(many), true)
		var all []api.Pair
		for n := range many {
			all = append(all, api.Pair{A: (n + 1) % many, B: n})
		}
		wantRing(t, excepted(s, all...), ring(many), true)
		// Without the last exception the first schema, which is later, still prevails over the last; without the first it also does over the second.
		wantRing(t, excepted(s, all[:many-1]...), ring(many), true)
		wantRing(t, excepted(s, all[1:]...), ring(many), false)
	}
}

// TestGroundsInACircle: an exception, a rank and a day, one behind the other.
func TestGroundsInACircle(t *testing.T) {
	schemas := []schema{{3, 1}, {2, 9}, {2, 8}}
	wantRing(t, law(schemas), ring(3), false)
	wantRing(t, law(schemas, api.Pair{A: 2, B: 0}), ring(3), true)
	wantRing(t, law(schemas, api.Pair{A: 1, B: 0}), ring(3), false)
	wantRing(t, law(schemas, api.Pair{A: 2, B: 0}, api.Pair{A: 1, B: 0}), ring(3), false)
	wantRing(t, law([]schema{{3, 1}, {2, 9}, {1, 10}}, api.Pair{A: 2, B: 0}), ring(3), true)
	wantRing(t, law([]schema{{3, 3}, {3, 2}, {3, 1}}, api.Pair{A: 2, B: 0}), ring(3), true)
	// Two of the same rank and day: the row is broken.
	wantRing(t, law([]schema{{3, 3}, {3, 3}, {3, 1}}, api.Pair{A: 2, B: 0}), ring(3), false)
}

// TestIntoACircle: rules that only lead into a circle, and such as it leads to, are not in what is told.
func TestIntoACircle(t *testing.T) {
	// In a row 0 to 7 each beats the next, and 5 also 3; or 7 also 5; or 2 also 0.
	for _, c := range []struct{ from, to int }{{5, 3}, {7, 5}, {2, 0}, {7, 0}, {4, 1}} {
		g := heads(upTo(8), []int{0, 1}, []int{1, 2}, []int{2, 3}, []int{3, 4}, []int{4, 5}, []int{5, 6}, []int{6, 7}, []int{c.from, c.to})
		s := excepted(later(8), api.Pair{A: c.from, B: c.to})
		wantAmong(t, s, g, upTo(8)[c.to:c.from+1]...)
		wantBuilt(t, later(8), g, modelBeats(later(8), g))
		// The rules the other way round: those of the circle come ahead of those that lead into it, or behind.
		slices.Reverse(g.Schema)
		slices.Reverse(g.Theory.Rules)
		wantAmong(t, s, g, upTo(8)[7-c.from:8-c.to]...)
	}
}

// TestSeveralCircles: one of them is told.
func TestSeveralCircles(t *testing.T) {
	g := heads(upTo(7), []int{0, 1, 2}, []int{2, 3}, []int{3, 4}, []int{4, 5, 6})
	s := excepted(later(7), api.Pair{A: 2, B: 0}, api.Pair{A: 6, B: 4})
	cycle := slices.Sorted(slices.Values(wantRound(t, s, g)))
	if !slices.Equal(cycle, []int{0, 1, 2}) && !slices.Equal(cycle, []int{4, 5, 6}) {
		t.Errorf("P13.4: the cycle %d", cycle)
	}
	// All against all, all ways round.
	var all []api.Pair
	for a := range 7 {
		for b := range 7 {
			all = append(all, api.Pair{A: a, B: b})
		}
	}
	wantRound(t, excepted(later(7), all...), inConflict(7))
}
