package prior_test

import (
	"slices"
	"testing"

	"lexprior/api"
	"lexprior/prior"
)

// TestMostPairs: 65536 are built, two more refused.
func TestMostPairs(t *testing.T) {
	against := func(one, other int) api.Ground {
		g := heads(nil, []int{0, 1})
		addRules(&g, 0, one)
		addRules(&g, 1, other)
		return g
	}
	g := against(128, 256)
	beats := make([][]int, 384)
	for r := range 128 {
		beats[r] = upTo(384)[128:]
	}
	wantBuilt(t, later(2), g, beats)
	wantRound(t, excepted(later(2), api.Pair{A: 0, B: 1}, api.Pair{A: 1, B: 0}), g)
	wantRefused(t, "65538 pairs", later(2), against(99, 331), api.ErrPairs)
}

// TestMostRules: 4096 in a ring of three schemas that go round, so that the one cycle has all of them but one.
func TestMostRules(t *testing.T) {
	g := ring(4095)
	for r := range g.Schema {
		g.Schema[r] = r % 3
	}
	addRules(&g, 0, 1)
	s := excepted(later(3), api.Pair{A: 2, B: 0})
	cycle := wantRound(t, s, g)
	if len(cycle) != 4095 {
		t.Errorf("P13.4: a cycle of %d", len(cycle))
	}
	wantBuilt(t, later(3), g, modelBeats(later(3), g))
	addRules(&g, 0, 1)
	wantRefused(t, "4097 rules", s, g, api.ErrGround)
}

// TestMostSchemas: 512, with 512 exceptions.
func TestMostSchemas(t *testing.T) {
	s := later(512)
	for n := range 511 {
		s = excepted(s, api.Pair{A: n + 1, B: n})
	}
	// The first 60 rules are all in conflict, and the last two.
	g := heads(upTo(512), upTo(60), []int{510, 511})
	wantBuilt(t, later(512), g, modelBeats(later(512), g))
	wantRound(t, s, g)
	s = excepted(s, api.Pair{A: 0, B: 511})
	wantAmong(t, s, ring(512), upTo(512)...)
	s.Excepts[511] = s.Excepts[0]
	wantRefused(t, "an exception twice", s, g, api.ErrTwice)
	s.Excepts = append(s.Excepts, s.Excepts[0])
	wantRefused(t, "513 exceptions", s, g, api.ErrCount)
}

// TestLongRows: far longer than calls can be nested.
func TestLongRows(t *testing.T) {
	const many = 1000000
	up, down := make([][]int, many), make([][]int, many)
	for n := range many {
		up[n], down[n] = []int{n + 1}, []int{n - 1}
	}
	wantOrder(t, up, upTo(many)...)
	turned := upTo(many)
	slices.Reverse(turned)
	wantOrder(t, down, turned...)
	up[many-1] = []int{0}
	if cycle := wantCycle(t, up); len(cycle) != many {
		t.Errorf("P13.3: a cycle of %d", len(cycle))
	}
	up[many-1] = []int{many - 2}
	if cycle := wantCycle(t, up); len(cycle) != 2 {
		t.Errorf("P13.3: a cycle of %d", len(cycle))
	}
	down[0] = []int{0}
	if cycle := wantCycle(t, down); len(cycle) != 1 {
		t.Errorf("P13.3: a cycle of %d", len(cycle))
	}
}

// TestManyEdges: each place beats all behind it, so that there are far more ways than could be gone.
func TestManyEdges(t *testing.T) {
	const many = 2000
	beats := make([][]int, many)
	for n := range many {
		beats[n] = upTo(many)[n+1:]
	}
	wantOrder(t, beats, upTo(many)...)
	for n := range many {
		beats[n] = upTo(n)
	}
	turned := upTo(many)
	slices.Reverse(turned)
	wantOrder(t, beats, turned...)
	beats[0] = []int{many - 1}
	wantCycle(t, beats)
}

// TestAllAsked: each two of many.
func TestAllAsked(t *testing.T) {
	s := later(60)
	built, errno, _ := prior.Build(s, inConflict(60))
	if errno != api.OK {
		t.Fatalf("P13.2: Build: %d", errno)
	}
	for a := range 60 {
		for b := range 60 {
			wantPrevails(t, s, a, b, a < b, api.OK)
			wantBeats(t, built.Theory, a, b, a < b)
		}
	}
}
