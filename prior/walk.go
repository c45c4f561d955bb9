package prior

import "slices"

// state is how far a walk has come with a place.
type state int

const (
	fresh state = iota // not come to yet
	open               // on the way that the walk is on
	shut               // no circle is to be come to from it
)

// walk goes over places that lead to others, deep first.
type walk struct {
	next   [][]int
	states []state
	tried  []int // of each place how many that it leads to were looked at
}

// circle: one of those that there are, or nothing.
func circle(next [][]int) []int {
	w := &walk{next: next, states: make([]state, len(next)), tried: make([]int, len(next))}
	for first := range next {
		if w.states[first] != fresh {
			continue
		}
		if found := w.circleFrom(first); len(found) > 0 {
			return found
		}
	}
	return nil
}

// circleFrom: the first one that the walk from a place closes. The way is a list, not calls in calls: it may be as long as there are places.
func (w *walk) circleFrom(first int) []int {
	way := []int{first}
	w.states[first] = open
onward:
	for len(way) > 0 {
		place := way[len(way)-1]
		for w.tried[place] < len(w.next[place]) {
			other := w.next[place][w.tried[place]]
			w.tried[place]++
			if !within(other, len(w.next)) {
				continue
			}
			switch w.states[other] {
			case open:
				return slices.Clone(way[slices.Index(way, other):])
			case fresh:
				w.states[other] = open
				way = append(way, other)
				continue onward
			}
		}
		w.states[place] = shut
		way = way[:len(way)-1]
	}
	return nil
}
