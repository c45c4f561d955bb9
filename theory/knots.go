package theory

// walk goes over places that lead to others, deep first, and finds their knots (after Tarjan).
type walk struct {
	next  [][]int
	came  []int // of each place when it was come to, from 1 on; 0: not yet
	back  []int // of each place the earliest open one that it leads back to
	clock int
	open  []int // places whose knot is not known yet, in the order in which they were come to
	shut  []bool
	knots [][]int
}

// knotsOf: places that lead to one another in circles are one knot; each knot stands behind all others that it leads to.
func knotsOf(next [][]int) [][]int {
	w := &walk{next: next, came: make([]int, len(next)), back: make([]int, len(next)), shut: make([]bool, len(next))}
	for place := range next {
		if w.came[place] == 0 {
			w.visit(place)
		}
	}
	return w.knots
}

func (w *walk) visit(place int) {
	w.clock++
	w.came[place], w.back[place] = w.clock, w.clock
	w.open = append(w.open, place)
	for _, other := range w.next[place] {
		if w.came[other] == 0 {
			w.visit(other)
		}
		if !w.shut[other] {
			w.back[place] = min(w.back[place], w.back[other])
		}
	}
	if w.back[place] == w.came[place] {
		w.shutKnot(place)
	}
}

// shutKnot: all open places from this one on are a knot.
func (w *walk) shutKnot(first int) {
	var knot []int
	for len(knot) == 0 || knot[len(knot)-1] != first {
		last := len(w.open) - 1
		knot = append(knot, w.open[last])
		w.shut[w.open[last]] = true
		w.open = w.open[:last]
	}
	w.knots = append(w.knots, knot)
}
