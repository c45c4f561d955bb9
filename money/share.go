package money

import (
	"cmp"
	"math/bits"
	"slices"

	"lexprior/api"
)

// mostWeights is how many weights an amount is shared out by at most. Their sum stays below 2^63.
const mostWeights = 4096

// Share: shared out by weights.
func Share(total api.Money, weights []int64) ([]api.Money, api.Errno) {
	if total < 0 || Check(total) != api.OK {
		return nil, api.ErrOver
	}
	if len(weights) == 0 || len(weights) > mostWeights {
		return nil, api.ErrCount
	}
	var all uint64
	for _, weight := range weights {
		if weight < 0 || weight > Most {
			return nil, api.ErrRange
		}
		all += uint64(weight)
	}
	if all == 0 {
		return nil, api.ErrArg
	}
	parts, rests := wholeParts(total, weights, all)
	left := total
	for _, part := range parts {
		left -= part
	}
	for _, place := range byRest(rests)[:left] {
		parts[place]++
	}
	return parts, api.OK
}

// wholeParts: of each weight its share's whole cents, and the rest of that division.
func wholeParts(total api.Money, weights []int64, all uint64) ([]api.Money, []uint64) {
	parts := make([]api.Money, len(weights))
	rests := make([]uint64, len(weights))
	for i, weight := range weights {
		// No weight is more than all, so the quotient is at most total: Div64 has a word for it.
		high, low := bits.Mul64(uint64(total), uint64(weight))
		part, rest := bits.Div64(high, low, all)
		parts[i], rests[i] = api.Money(part), rest
	}
	return parts, rests
}

// byRest: the places of the rests, the greatest first; of equal ones the first, so the sort must be stable.
func byRest(rests []uint64) []int {
	places := make([]int, len(rests))
	for i := range places {
		places[i] = i
	}
	slices.SortStableFunc(places, func(a, b int) int {
		return cmp.Compare(rests[b], rests[a])
	})
	return places
}
