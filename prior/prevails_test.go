package prior_test

import (
	"math"
	"testing"

	"lexprior/api"
)

// lastDay is the last one that there is.
const lastDay api.Date = 3652059

// TestGrounds: of rank, day and exceptions each by itself and against the others, both ways round.
func TestGrounds(t *testing.T) {
	for _, c := range []struct {
		rank, day   int  // of the one, less the other's
		over, under bool // without exceptions: does the one prevail, does the other?
	}{
		{1, 0, true, false}, {1, 1, true, false}, {1, -1, true, false},
		{0, 1, true, false}, {0, 0, false, false}, {0, -1, false, true},
		{-1, 0, false, true}, {-1, 1, false, true}, {-1, -1, false, true},
	} {
		for _, step := range []struct {
			rank int
			day  api.Date
		}{{1, 1}, {500, 1}, {1, 1800000}, {500, 1800000}} {
			schemas := []schema{{500 + c.rank*step.rank, 1800001 + api.Date(c.day)*step.day}, {500, 1800001}}
			wantBoth(t, law(schemas), c.over, c.under)
			wantBoth(t, law(schemas, api.Pair{A: 0, B: 1}), true, false)
			wantBoth(t, law(schemas, api.Pair{A: 1, B: 0}), false, true)
			wantBoth(t, law(schemas, api.Pair{A: 1, B: 0}, api.Pair{A: 0, B: 1}), true, true)
			// Of a rule to itself: that changes nothing between the two.
			wantBoth(t, law(schemas, api.Pair{A: 0, B: 0}, api.Pair{A: 1, B: 1}), c.over, c.under)
		}
	}
}

// wantBoth: the schema 0 over 1, and 1 over 0.
func wantBoth(t *testing.T, s api.Statute, over, under bool) {
	t.Helper()
	wantTaken(t, s)
	wantPrevails(t, s, 0, 1, over, api.OK)
	wantPrevails(t, s, 1, 0, under, api.OK)
}

func TestFarthestGrounds(t *testing.T) {
	wantBoth(t, law([]schema{{1000, 1}, {0, lastDay}}), true, false)
	wantBoth(t, law([]schema{{1000, lastDay}, {1000, 1}}), true, false)
	wantBoth(t, law([]schema{{0, 1}, {0, lastDay}}), false, true)
	wantBoth(t, law([]schema{{0, lastDay - 1}, {1, 1}}), false, true)
	wantBoth(t, law([]schema{{1000, lastDay}, {0, 1}}, api.Pair{A: 1, B: 0}), false, true)
}

// TestItself: no schema prevails over itself, unless it is declared an exception to itself.
func TestItself(t *testing.T) {
	s := law([]schema{{2, 5}, {1, 9}, {2, 5}}, api.Pair{A: 1, B: 1}, api.Pair{A: 0, B: 1})
	wantTaken(t, s)
	wantPrevails(t, s, 0, 0, false, api.OK)
	wantPrevails(t, s, 1, 1, true, api.OK)
	wantPrevails(t, s, 2, 2, false, api.OK)
	wantPrevails(t, s, 0, 2, false, api.OK)
	wantPrevails(t, s, 2, 0, false, api.OK)
}

// TestExceptionsOfOthers: only that of these two counts, not one by way of another.
func TestExceptionsOfOthers(t *testing.T) {
	s := law([]schema{{1, 1}, {1, 2}, {1, 3}}, api.Pair{A: 0, B: 1}, api.Pair{A: 1, B: 2})
	wantTaken(t, s)
	wantPrevails(t, s, 0, 1, true, api.OK)
	wantPrevails(t, s, 1, 2, true, api.OK)
	wantPrevails(t, s, 0, 2, false, api.OK)
	wantPrevails(t, s, 2, 0, true, api.OK)
}

// TestOneSource: of two schemas of one source the later; the source's place in its list is nothing.
func TestOneSource(t *testing.T) {
	text := "pred p. source z rank 1. source y rank 3. source x rank 2. source w rank 1."
	s := parsed(t, text+`rule a of z at 2001-01-01 : => p. rule b of y at 2000-01-01 : => p. rule c of x at 2009-01-01 : => p.
		rule d of z at 2000-12-31 : => p. rule e of y at 2001-01-01 : => p. rule f of w at 2001-01-02 : => p.`)
	order := []int{4, 1, 2, 5, 0, 3} // from the one that prevails over all on
	for i, a := range order {
		for j, b := range order {
			wantPrevails(t, s, a, b, i < j, api.OK)
		}
	}
}

// TestWhatDoesNotCount: arrows, bodies, heads, days of end, names.
func TestWhatDoesNotCount(t *testing.T) {
	text := "pred p. pred q. source s rank 1. source act rank 1. "
	s := parsed(t, text+`rule a of s at 2001-01-01 : p -> q. rule z of act at 2001-01-01 until 2002-01-01 : => -p.
		rule c of s at 2001-01-01 until 2030-05-05 : ~> q. rule d of act at 2001-01-01 : p, q => p.`)
	for a := range 4 {
		for b := range 4 {
			wantPrevails(t, s, a, b, false, api.OK)
		}
	}
	s.Rules[2].At++
	for other := range 4 {
		wantPrevails(t, s, 2, other, other != 2, api.OK)
		wantPrevails(t, s, other, 2, false, api.OK)
	}
}

func TestNoSuchSchema(t *testing.T) {
	s := law([]schema{{1, 1}, {2, 2}})
	for _, n := range []int{-1, 2, 3, math.MinInt, math.MaxInt} {
		for _, other := range []int{0, 1, n} {
			wantPrevails(t, s, n, other, false, api.ErrArg)
			wantPrevails(t, s, other, n, false, api.ErrArg)
		}
	}
	for _, n := range []int{-1, 0, 1} {
		wantPrevails(t, api.Statute{}, n, n, false, api.ErrArg)
	}
}

// TestRefusedStatutes: that goes ahead of numbers that there are not.
func TestRefusedStatutes(t *testing.T) {
	for errno, s := range refused() {
		for _, a := range []int{0, 1, 2, -1, math.MaxInt} {
			for _, b := range []int{0, 1, 2, -1, math.MaxInt} {
				wantPrevails(t, s, a, b, false, errno)
			}
		}
	}
}

// refused: statutes of two schemas that resolve.Check refuses, by their error.
func refused() map[api.Errno]api.Statute {
	all := map[api.Errno]api.Statute{}
	add := func(errno api.Errno, spoil func(s *api.Statute)) {
		s := law([]schema{{1, 1}, {2, 2}}, api.Pair{A: 0, B: 1})
		spoil(&s)
		all[errno] = s
	}
	add(api.ErrSource, func(s *api.Statute) { s.Rules[1].Source = "none" })
	add(api.ErrDate, func(s *api.Statute) { s.Rules[0].At = 0 })
	add(api.ErrOrder, func(s *api.Statute) { s.Rules[0].Until = 1 })
	add(api.ErrRange, func(s *api.Statute) { s.Sources[1].Rank = 1001 })
	add(api.ErrName, func(s *api.Statute) { s.Excepts[0].Under = "none" })
	add(api.ErrTwice, func(s *api.Statute) { s.Excepts = append(s.Excepts, s.Excepts[0]) })
	add(api.ErrArg, func(s *api.Statute) { s.Rules[1].Arrow = 0 })
	add(api.ErrCount, func(s *api.Statute) { s.Excepts = make([]api.Exception, 513) })
	add(api.ErrSymbol, func(s *api.Statute) { s.Rules[0].Name = "" })
	return all
}
