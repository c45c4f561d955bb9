package theory_test

import (
	"testing"

	"lexprior/api"
)

// TestExamples: those of the chapter.
func TestExamples(t *testing.T) {
	x := plain(2, rule(0), rule(1))
	enemies(&x, 0, 1)
	x.Beats = [][]int{{1}, {}}
	wantCheck(t, "example 1", x, api.OK, 0)
	wantSize(t, x, 2, 0, 2, api.OK)
	x.Beats = [][]int{{1}, {0}}
	wantCheck(t, "example 1", x, api.ErrPriorityCycle, 0)
	x = plain(3, rule(1, 0), rule(2, 1))
	wantCone(t, x, []int{0}, []int{0, 1, 2}, api.OK)
	wantLayers(t, x, []int{0, 1, 2}, 3, api.OK)
}
