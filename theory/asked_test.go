package theory_test

import (
	"math"
	"slices"
	"testing"

	"lexprior/api"
)

func TestFor(t *testing.T) {
	for lit, want := range [][]int{{0}, {1, 6}, {2}, {3}, {4}, {5}} {
		wantFor(t, house(), lit, want, api.OK)
	}
	for _, lit := range []int{-1, 6, 7, 4096, math.MinInt, math.MaxInt} {
		wantFor(t, house(), lit, nil, api.ErrLit)
	}
	wantFor(t, plain(3, rule(1), rule(1, 0, 1, 2), rule(2)), 0, nil, api.OK)
	wantFor(t, plain(3, rule(1), rule(1, 0, 1, 2), rule(2)), 1, []int{0, 1}, api.OK)
	wantFor(t, api.Theory{}, 0, nil, api.ErrLit)
	wantFor(t, plain(1, slices.Repeat([]api.Rule{rule(0)}, 4096)...), 0, upTo(4096), api.OK)
}

func TestSize(t *testing.T) {
	wantSize(t, api.Theory{}, 0, 0, 0, api.OK)
	wantSize(t, plain(5), 5, 0, 0, api.OK)
	wantSize(t, plain(2, rule(0, 0, 1), rule(0), rule(0, 1)), 2, 3, 0, api.OK)
	// Foes are 0, 1, 2 with 1, 2, 1 rules (2*(1*2 + 1*1 + 2*1)) and 3, 4 with one each (2).
	wantSize(t, house(), 6, 1+2+0+1+3, 12, api.OK)
	x := plain(4, rule(0), rule(0), rule(1), rule(3), rule(0), rule(1))
	enemies(&x, 0, 1)
	enemies(&x, 2, 3) // of which 2 has no rule
	wantSize(t, x, 4, 0, 2*3*2, api.OK)
}

// TestCone: rules lead from their bodies to their heads, foes to each other.
func TestCone(t *testing.T) {
	x := plain(9, rule(1, 0), rule(2, 1, 3), rule(4, 5), rule(8), rule(7, 6, 7))
	enemies(&x, 2, 5)
	for _, one := range []struct{ lits, want []int }{
		{nil, nil},
		{[]int{}, nil},
		{[]int{0}, []int{0, 1, 2, 4, 5}},
		{[]int{1}, []int{1, 2, 4, 5}},
		{[]int{2}, []int{2, 4, 5}},
		{[]int{3}, []int{2, 3, 4, 5}},
		{[]int{4}, []int{4}},
		{[]int{5}, []int{2, 4, 5}},
		{[]int{6}, []int{6, 7}},
		{[]int{7}, []int{7}},
		{[]int{8}, []int{8}},
		{[]int{8, 4}, []int{4, 8}},
		{[]int{8, 8, 1, 8}, []int{1, 2, 4, 5, 8}},
		{[]int{4, 4, 4}, []int{4}},
		{upTo(9), upTo(9)},
		{[]int{8, 7, 6, 5, 4, 3, 2, 1, 0}, upTo(9)},
	} {
		wantCone(t, x, one.lits, one.want, api.OK)
	}
	for _, lits := range [][]int{{-1}, {9}, {0, 9}, {9, 0}, {0, 1, -1, 2}, {math.MaxInt}, {math.MinInt}, upTo(10)} {
		wantCone(t, x, lits, nil, api.ErrLit)
	}
	wantCone(t, api.Theory{}, nil, nil, api.OK)
	wantCone(t, api.Theory{}, []int{0}, nil, api.ErrLit)
}

// TestConeKinds: each kind of rule leads on; what is beaten does not matter.
func TestConeKinds(t *testing.T) {
	for _, kind := range []api.Arrow{api.Strict, api.Defeasible, api.Defeater} {
		x := plain(4, api.Rule{Kind: kind, Head: 2, Body: []int{1, 3}}, rule(0))
		enemies(&x, 0, 2)
		x.Beats[1] = []int{0}
		wantCone(t, x, []int{1}, []int{0, 1, 2}, api.OK)
		wantCone(t, x, []int{0}, []int{0, 2}, api.OK)
		wantLayers(t, x, []int{1, 0, 1, 0}, 2, api.OK)
	}
}

func TestPart(t *testing.T) {
	x := house()
	wantPart(t, x, nil, api.Theory{}, nil, api.OK)
	wantPart(t, x, []int{}, api.Theory{}, nil, api.OK)
	wantPart(t, x, upTo(6), x, upTo(7), api.OK)
	wantPart(t, x, []int{4}, plain(1), nil, api.OK)
	wantPart(t, x, []int{5}, plain(1, api.Rule{Kind: api.Strict}), []int{5}, api.OK)

	some := plain(3, api.Rule{Kind: api.Defeater, Head: 1}, api.Rule{Kind: api.Strict, Head: 2}, rule(0))
	enemies(&some, 0, 1)
	some.Beats[0] = []int{2}
	wantPart(t, x, []int{1, 2, 5}, some, []int{2, 5, 6}, api.OK)

	others := plain(5, api.Rule{Kind: api.Strict, Head: 0, Body: []int{4}}, rule(1, 2, 4), rule(2, 0), api.Rule{Kind: api.Strict, Head: 4}, rule(1))
	enemies(&others, 0, 1)
	enemies(&others, 2, 3)
	others.Beats[0] = []int{1, 4}
	wantPart(t, x, []int{0, 1, 3, 4, 5}, others, []int{0, 1, 3, 5, 6}, api.OK)

	for _, lits := range [][]int{{-1}, {6}, {0, 6}, {0, 0}, {1, 0}, {0, 1, 2, 3, 5, 4}, {math.MaxInt}, {math.MinInt}, {-1, 0}, upTo(7)} {
		wantPart(t, x, lits, api.Theory{}, nil, api.ErrLit)
	}
	wantPart(t, api.Theory{}, nil, api.Theory{}, nil, api.OK)
	wantPart(t, api.Theory{}, []int{0}, api.Theory{}, nil, api.ErrLit)
}

// TestPartRules: one is there just if its head and all of its body are.
func TestPartRules(t *testing.T) {
	x := plain(4, rule(3, 0, 1, 2), rule(0), rule(1, 1))
	wantPart(t, x, []int{1, 2, 3}, plain(3, rule(0, 0)), []int{2}, api.OK)
	wantPart(t, x, []int{0, 2, 3}, plain(3, rule(0)), []int{1}, api.OK)
	wantPart(t, x, []int{0, 1, 3}, plain(3, rule(0), rule(1, 1)), []int{1, 2}, api.OK)
	wantPart(t, x, []int{0, 1, 2}, plain(3, rule(0), rule(1, 1)), []int{1, 2}, api.OK)
	wantPart(t, x, upTo(4), x, upTo(3), api.OK)
}

func TestLayers(t *testing.T) {
	wantLayers(t, api.Theory{}, nil, 0, api.OK)
	wantLayers(t, plain(3), []int{0, 0, 0}, 1, api.OK)
	wantLayers(t, plain(3, rule(1, 2), rule(0, 1)), []int{2, 1, 0}, 3, api.OK)
	wantLayers(t, plain(2, rule(0), rule(1, 1)), []int{0, 0}, 1, api.OK)
	wantLayers(t, plain(3, rule(0, 1), rule(1, 0), rule(2, 0)), []int{0, 0, 1}, 2, api.OK)
	wantLayers(t, plain(3, rule(0, 2), rule(1, 0), rule(0, 1)), []int{1, 1, 0}, 2, api.OK)
	wantLayers(t, plain(4, rule(0, 1, 2), rule(1, 3), rule(3, 2)), []int{3, 2, 0, 1}, 4, api.OK)
	wantLayers(t, plain(4, rule(0, 1, 3), rule(1, 2), rule(0, 2)), []int{2, 1, 0, 0}, 3, api.OK)
	// Two knots of two, the one behind the other, and one literal behind both.
	wantLayers(t, plain(5, rule(0, 1), rule(1, 0), rule(2, 3), rule(3, 1, 2), rule(4, 0, 2)), []int{0, 0, 1, 1, 2}, 3, api.OK)
	// A circle through three, with a short cut.
	wantLayers(t, plain(5, rule(0, 1), rule(1, 2), rule(2, 0), rule(2, 1), rule(3, 4), rule(0, 4)), []int{1, 1, 1, 1, 0}, 2, api.OK)
	wantLayers(t, house(), []int{1, 1, 1, 1, 1, 0}, 2, api.OK)
}

// TestLayersOfFoes: foes are one knot, and what the one depends on the other does.
func TestLayersOfFoes(t *testing.T) {
	x := plain(4, rule(1, 0), rule(3, 2))
	enemies(&x, 1, 2)
	wantLayers(t, x, []int{0, 1, 1, 2}, 3, api.OK)
	x = plain(4, rule(1, 0), rule(3, 2))
	enemies(&x, 0, 3)
	wantLayers(t, x, []int{1, 2, 0, 1}, 3, api.OK)
	x = plain(4, rule(0, 1))
	enemies(&x, 0, 1)
	enemies(&x, 2, 3)
	wantLayers(t, x, []int{0, 0, 0, 0}, 1, api.OK)
	// Foes of foes are in the knot, though they are no foes.
	x = plain(5, rule(0, 4), rule(3, 2))
	enemies(&x, 0, 1)
	enemies(&x, 1, 2)
	wantLayers(t, x, []int{1, 1, 1, 2, 0}, 3, api.OK)
}
