package strict

import (
	"slices"
	"testing"
)

// TestWorklist: each comes once, in the order in which it came; who stops may go on.
func TestWorklist(t *testing.T) {
	put, waiting := worklist(5)
	for _, lit := range []int{3, 1, 3} {
		put(lit)
	}
	var got []int
	for lit := range waiting {
		got = append(got, lit)
		if lit == 3 {
			break
		}
	}
	if put(3) || !put(4) {
		t.Error("one that was handed out comes again, or a new one does not")
	}
	for lit := range waiting {
		got = append(got, lit)
		if lit == 1 && (!put(0) || put(0)) {
			t.Error("one that comes meanwhile does not come once")
		}
	}
	if want := []int{3, 1, 4, 0}; !slices.Equal(got, want) {
		t.Errorf("handed out: %d, want %d", got, want)
	}
}
