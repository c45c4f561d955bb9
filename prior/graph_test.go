package prior_test

import (
	"math"
	"slices"
	"testing"

	"lexprior/api"
	"lexprior/prior"
)

func TestNoLists(t *testing.T) {
	wantOrder(t, nil)
	wantOrder(t, [][]int{})
	wantOrder(t, [][]int{nil}, 0)
	wantOrder(t, [][]int{{}, nil, {}}, 0, 1, 2)
}

func TestNoPlaces(t *testing.T) {
	wantOrder(t, [][]int{{1, 7, -1}, nil}, 0, 1)
	wantOrder(t, [][]int{{-1}, {2}, {3}, {math.MinInt, math.MaxInt, 4}}, 0, 1, 2, 3)
	wantOrder(t, [][]int{{1}}, 0)
	wantOrder(t, [][]int{{-1}}, 0)
	wantOrder(t, [][]int{{1 << 32, 1<<32 + 1}, {1 << 32}}, 0, 1)
	wantOrder(t, [][]int{{2}, {0, 2, math.MaxInt}, {3, -1, -2, -3}}, 1, 0, 2)
	wantCycle(t, [][]int{{-1, 1}, {9, 0, 2}})
	wantCycle(t, [][]int{{math.MaxInt}, {2, 1}, {3}})
}

// TestItselfNamed: a place that names itself is a circle of its own.
func TestItselfNamed(t *testing.T) {
	for many := 1; many < 5; many++ {
		for place := range many {
			beats := make([][]int, many)
			for n := range many {
				beats[n] = upTo(many)[n+1:]
			}
			beats[place] = append(beats[place], place)
			if cycle := wantCycle(t, beats); !slices.Equal(cycle, []int{place}) {
				t.Errorf("P13.3: Cycle(%d): %d, want %d", beats, cycle, place)
			}
		}
	}
	wantCycle(t, [][]int{{0, 0}})
}

// TestTwiceNamed: a number that a list has several times is one edge.
func TestTwiceNamed(t *testing.T) {
	wantOrder(t, [][]int{{1, 1}, {2, 2, 2}, {}}, 0, 1, 2)
	wantOrder(t, [][]int{{}, {0, 0, 0, 2, 0}, {0, 0}}, 1, 2, 0)
	wantCycle(t, [][]int{{1, 1}, {0, 0}})
}

// TestNotRising: lists in any order.
func TestNotRising(t *testing.T) {
	wantOrder(t, [][]int{{3, 1, 2}, {3, 2}, {}, {2}}, 0, 1, 3, 2)
	wantOrder(t, [][]int{{}, {3, 0}, {1, 0, 3}, {0, -4}}, 2, 1, 3, 0)
	wantCycle(t, [][]int{{3, 1, 2}, {3, 2}, {0}, {2}})
}

// TestNextIsLowest: of several places that could stand next.
func TestNextIsLowest(t *testing.T) {
	wantOrder(t, [][]int{{}, {}, {}, {}}, 0, 1, 2, 3)
	wantOrder(t, [][]int{{}, {}, {}, {0}}, 1, 2, 3, 0)
	wantOrder(t, [][]int{{4}, {}, {0}, {1}, {}}, 2, 0, 3, 1, 4)
	wantOrder(t, [][]int{{}, {0}, {}, {0}, {2}}, 1, 3, 0, 4, 2)
	// 0 comes free behind 5, and goes ahead of those that were free for long.
	wantOrder(t, [][]int{{}, {}, {7}, {5}, {}, {0}, {}, {}}, 1, 2, 3, 4, 5, 0, 6, 7)
	wantOrder(t, [][]int{{1}, {2}, {}, {0}}, 3, 0, 1, 2)
	wantOrder(t, [][]int{{2}, {2}, {}, {1}}, 0, 3, 1, 2)
	wantOrder(t, [][]int{{}, {0}, {1}, {2}, {3}}, 4, 3, 2, 1, 0)
	wantOrder(t, [][]int{{}, {}, {0, 1}, {0}, {1}}, 2, 3, 0, 4, 1)
}

// TestOneCircle: among places that have none.
func TestOneCircle(t *testing.T) {
	for _, c := range []struct {
		beats [][]int
		want  []int
	}{
		{[][]int{{1}, {0}}, []int{0, 1}},
		{[][]int{{1}, {2}, {0}}, []int{0, 1, 2}},
		{[][]int{{2}, {0}, {1}}, []int{0, 1, 2}},
		{[][]int{{1}, {2}, {1}}, []int{1, 2}},
		{[][]int{{}, {}, {3}, {4}, {2}, {}}, []int{2, 3, 4}},
		{[][]int{{1, 2}, {3}, {3}, {4}, {}, {6, 4}, {0, 7}, {5}}, []int{5, 6, 7}},
		{[][]int{{1, 3}, {2}, {}, {4}, {5, 1}, {3, 2}}, []int{3, 4, 5}},
		{[][]int{{5}, {0}, {1, 0}, {2}, {3}, {}, {4, 0, 7}, {6, 5}}, []int{6, 7}},
	} {
		if cycle := wantCycle(t, c.beats); !slices.Equal(slices.Sorted(slices.Values(cycle)), c.want) {
			t.Errorf("P13.3: Cycle(%d): %d, want a circle of %d", c.beats, cycle, c.want)
		}
	}
}

// TestManyCircles: any of them.
func TestManyCircles(t *testing.T) {
	wantCycle(t, [][]int{{1}, {0}, {3}, {2}})
	wantCycle(t, [][]int{{0}, {1}, {2}})
	wantCycle(t, [][]int{{0, 1, 2}, {0, 1, 2}, {0, 1, 2}})
	wantCycle(t, [][]int{{1}, {2, 0}, {3, 1}, {2}})
	wantCycle(t, [][]int{{1}, {2}, {3}, {4}, {5, 0}, {6, 3}, {1, 2}})
	wantCycle(t, [][]int{{4, 3}, {0, 2}, {}, {1, 2}, {2, 1}})
}

// TestNearlyACircle: two ways that come together again are none.
func TestNearlyACircle(t *testing.T) {
	wantOrder(t, [][]int{{1, 2}, {3}, {3}, {}}, 0, 1, 2, 3)
	wantOrder(t, [][]int{{2, 1}, {3, 2}, {3}, {4}, {}}, 0, 1, 2, 3, 4)
	wantOrder(t, [][]int{{}, {0}, {0, 1}, {0, 1, 2}}, 3, 2, 1, 0)
	wantOrder(t, [][]int{{3}, {3}, {1, 0, 3}, {}}, 2, 0, 1, 3)
}

func TestBeats(t *testing.T) {
	x := api.Theory{Beats: [][]int{{1, 2}, {}, {1}, nil}, Rules: make([]api.Rule, 4)}
	for a := range 4 {
		for b := range 4 {
			wantBeats(t, x, a, b, a == 0 && (b == 1 || b == 2) || a == 2 && b == 1)
		}
	}
	for _, n := range []int{-1, 4, 5, math.MinInt, math.MaxInt} {
		for other := range 4 {
			wantBeats(t, x, n, other, false)
			wantBeats(t, x, other, n, false)
		}
		wantBeats(t, x, n, n, false)
		wantBeats(t, api.Theory{}, n, n, false)
	}
	wantBeats(t, api.Theory{}, 0, 0, false)
	wantBeats(t, api.Theory{Rules: make([]api.Rule, 3)}, 0, 1, false)
}

// TestBeatsOfWrongTheories: whether the theory may be is not asked, nor whether the list rises.
func TestBeatsOfWrongTheories(t *testing.T) {
	x := api.Theory{Lits: -7, Foes: [][]int{{9}}, Rules: make([]api.Rule, 3), Beats: [][]int{{2, 1, 1, 0}, {0, 7, -3}, {5, 4}}}
	for a, list := range x.Beats {
		for b := -9; b < 9; b++ {
			wantBeats(t, x, a, b, slices.Contains(list, b))
		}
	}
}

// TestBeatsOfBuilt: as Build told it.
func TestBeatsOfBuilt(t *testing.T) {
	s := parsed(t, household)
	g := grounded(t, s)
	for a := range g.Schema {
		for b := range g.Schema {
			wantBeats(t, g.Theory, a, b, false)
		}
	}
	built, errno, _ := prior.Build(s, g)
	if errno != api.OK {
		t.Fatalf("P13.2: Build: %d", errno)
	}
	want := modelBeats(s, g)
	for a := range g.Schema {
		for b := range g.Schema {
			wantBeats(t, built.Theory, a, b, slices.Contains(want[a], b))
		}
	}
}
