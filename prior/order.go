package prior

import (
	"container/heap"
	"sort"
)

// ready has the places that could stand next, the lowest on top.
type ready struct {
	sort.IntSlice
}

func (r *ready) Push(place any) {
	r.IntSlice = append(r.IntSlice, place.(int))
}

func (r *ready) Pop() any {
	last := len(r.IntSlice) - 1
	place := r.IntSlice[last]
	r.IntSlice = r.IntSlice[:last]
	return place
}

// awaits: of each place how many times all lists name it.
func awaits(beats [][]int) []int {
	times := make([]int, len(beats))
	for _, beaten := range beats {
		for _, place := range beaten {
			if within(place, len(beats)) {
				times[place]++
			}
		}
	}
	return times
}

// lowestFirst: the places, each behind all that name it, of several that could stand next the lowest; without those that never could.
func lowestFirst(beats [][]int) []int {
	awaited := awaits(beats)
	next := &ready{}
	for place, times := range awaited {
		if times == 0 {
			heap.Push(next, place)
		}
	}
	var order []int
	for next.Len() > 0 {
		place := heap.Pop(next).(int)
		order = append(order, place)
		for _, other := range beats[place] {
			if !within(other, len(beats)) {
				continue
			}
			awaited[other]--
			if awaited[other] == 0 {
				heap.Push(next, other)
			}
		}
	}
	return order
}
