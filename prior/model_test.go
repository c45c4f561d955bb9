package prior_test

import (
	"slices"

	"lexprior/api"
	"lexprior/resolve"
	"lexprior/theory"
)

// What the chapter says, in another way: each two are held against each other, by going through whole lists.

// modelPrevails: of a statute that resolve.Check takes.
func modelPrevails(s api.Statute, a, b int) bool {
	over, under := s.Rules[a], s.Rules[b]
	if slices.Contains(s.Excepts, api.Exception{Over: over.Name, Under: under.Name}) {
		return true
	}
	if slices.Contains(s.Excepts, api.Exception{Over: under.Name, Under: over.Name}) {
		return false
	}
	return weight(s, over) > weight(s, under)
}

// weight: a day's number is far below the factor.
func weight(s api.Statute, r api.RuleText) int {
	source := slices.IndexFunc(s.Sources, func(x api.SourceText) bool { return x.Name == r.Source })
	return s.Sources[source].Rank*10000000 + int(r.At)
}

// modelBeats: the relation, cycles or not.
func modelBeats(s api.Statute, g api.Ground) [][]int {
	beats := make([][]int, len(g.Theory.Rules))
	for r, one := range g.Theory.Rules {
		for o, other := range g.Theory.Rules {
			if slices.Contains(g.Theory.Foes[one.Head], other.Head) && modelPrevails(s, g.Schema[r], g.Schema[o]) {
				beats[r] = append(beats[r], o)
			}
		}
	}
	return beats
}

// isPlace: is it a number of a list?
func isPlace(n, many int) bool {
	return 0 <= n && n < many
}

// modelFault: circles aside.
func modelFault(s api.Statute, g api.Ground) api.Errno {
	if errno, _ := resolve.Check(s); errno != api.OK {
		return errno
	}
	x := g.Theory
	x.Beats = make([][]int, len(x.Rules))
	if errno, _ := theory.Check(x); errno != api.OK {
		return errno
	}
	if len(g.Schema) != len(x.Rules) || slices.ContainsFunc(g.Schema, func(n int) bool { return !isPlace(n, len(s.Rules)) }) {
		return api.ErrArg
	}
	return api.OK
}

// isCycle: not empty, none twice, each names the next, and the last the first.
func isCycle(beats [][]int, list []int) bool {
	seen := map[int]bool{}
	for n, place := range list {
		if !isPlace(place, len(beats)) || seen[place] || !slices.Contains(beats[place], list[(n+1)%len(list)]) {
			return false
		}
		seen[place] = true
	}
	return len(list) > 0
}

// hasCycle: by all ways from one place to another (after Warshall).
func hasCycle(beats [][]int) bool {
	many := len(beats)
	way := map[[2]int]bool{}
	for a, list := range beats {
		for _, b := range list {
			way[[2]int{a, b}] = isPlace(b, many)
		}
	}
	for by := range many {
		for a := range many {
			for b := range many {
				if way[[2]int{a, by}] && way[[2]int{by, b}] {
					way[[2]int{a, b}] = true
				}
			}
		}
	}
	return slices.ContainsFunc(upTo(many), func(a int) bool { return way[[2]int{a, a}] })
}

// modelOrder: again and again the lowest place that none of those that are left names; of places without a cycle.
func modelOrder(beats [][]int) []int {
	left := upTo(len(beats))
	var order []int
	for len(left) > 0 {
		next := slices.IndexFunc(left, func(place int) bool {
			return !slices.ContainsFunc(left, func(other int) bool { return slices.Contains(beats[other], place) })
		})
		order = append(order, left[next])
		left = slices.Delete(left, next, next+1)
	}
	return order
}
