package money_test

import (
	"math"
	"math/big"
	"slices"
	"testing"

	"lexprior/api"
	"lexprior/money"
)

func TestShare(t *testing.T) {
	const most = money.Most
	for _, c := range []struct {
		total   api.Money
		weights []int64
		want    []api.Money
	}{
		{1000, []int64{1, 1, 1}, []api.Money{334, 333, 333}},
		{5, []int64{0, 3, 3}, []api.Money{0, 3, 2}},
		{0, []int64{1}, []api.Money{0}},
		{0, []int64{0, 2, 5}, []api.Money{0, 0, 0}},
		{7, []int64{most}, []api.Money{7}},
		{most, []int64{1}, []api.Money{most}},
		{most, []int64{most}, []api.Money{most}},
		{most, []int64{most, most}, []api.Money{most / 2, most / 2}},
		{most, []int64{0, 1, 0}, []api.Money{0, most, 0}},
		{most, []int64{most, 1}, []api.Money{most - 1, 1}},
		{1, []int64{1, 2}, []api.Money{0, 1}},
		{1, []int64{1, 1}, []api.Money{1, 0}},
		{2, []int64{1, 1, 1, 1}, []api.Money{1, 1, 0, 0}},
		{2, []int64{0, 1, 0, 1, 1}, []api.Money{0, 1, 0, 1, 0}},
		{10, []int64{1, 2, 4}, []api.Money{1, 3, 6}},
		{100, []int64{3, 3, 1}, []api.Money{43, 43, 14}},
		{4, []int64{5, 3, 3}, []api.Money{2, 1, 1}},
	} {
		if got, errno := money.Share(c.total, c.weights); !slices.Equal(got, c.want) || errno != api.OK {
			t.Errorf("P2.4: Share(%d, %d) = %d, %d, want %d", c.total, c.weights, got, errno, c.want)
		}
	}
}

func TestShareErrors(t *testing.T) {
	const most = money.Most
	tooMany := make([]int64, 4097)
	for _, c := range []struct {
		total   api.Money
		weights []int64
		err     api.Errno
	}{
		{-1, []int64{1}, api.ErrOver},
		{most + 1, []int64{1}, api.ErrOver},
		{math.MinInt64, nil, api.ErrOver},
		{math.MaxInt64, tooMany, api.ErrOver},
		{-1, []int64{-1}, api.ErrOver},
		{5, nil, api.ErrCount},
		{5, []int64{}, api.ErrCount},
		{5, tooMany, api.ErrCount},
		{5, append([]int64{-1}, tooMany...), api.ErrCount},
		{5, []int64{-1}, api.ErrRange},
		{5, []int64{1, -1}, api.ErrRange},
		{5, []int64{most + 1}, api.ErrRange},
		{5, []int64{1, 2, most + 1}, api.ErrRange},
		{5, []int64{math.MinInt64, 1}, api.ErrRange},
		{5, []int64{math.MaxInt64, 1}, api.ErrRange},
		{5, []int64{0, 0, -1}, api.ErrRange},
		{5, []int64{1, -1, 0}, api.ErrRange},
		{5, []int64{0}, api.ErrArg},
		{0, []int64{0, 0}, api.ErrArg},
		{5, tooMany[:4096], api.ErrArg},
	} {
		if got, errno := money.Share(c.total, c.weights); len(got) != 0 || errno != c.err {
			t.Errorf("P2.4: Share(%d, %d weights) = %d, %d, want %d", c.total, len(c.weights), got, errno, c.err)
		}
	}
}

func TestShareAmongMost(t *testing.T) {
	weights := slices.Repeat([]int64{money.Most}, 4096)
	parts, errno := money.Share(money.Most, weights)
	if errno != api.OK {
		t.Fatalf("P2.4: 4096 of the greatest weights: %d", errno)
	}
	checkParts(t, money.Most, weights, parts)
	weights[4095] = 1
	for _, total := range []api.Money{0, 1, 4095, 4096, 4097, money.Most - 1} {
		parts, errno = money.Share(total, weights)
		if errno != api.OK {
			t.Fatalf("P2.4: 4096 weights: %d", errno)
		}
		checkParts(t, total, weights, parts)
	}
}

// checkParts: the parts held against the chapter's words, by numbers of any size.
func checkParts(t *testing.T, total api.Money, weights []int64, parts []api.Money) {
	t.Helper()
	if want := exactShare(total, weights); !slices.Equal(parts, want) {
		t.Fatalf("P2.4: Share(%d, %d) = %d, want %d", total, weights, parts, want)
	}
	if bigSum(parts).Cmp(big.NewInt(int64(total))) != 0 {
		t.Fatalf("P2.8: Share(%d, %d) = %d: cents are lost", total, weights, parts)
	}
	all := new(big.Int)
	for _, weight := range weights {
		all.Add(all, big.NewInt(weight))
	}
	one := big.NewRat(1, 1)
	for i, weight := range weights {
		share := new(big.Rat).SetFrac(new(big.Int).Mul(big.NewInt(int64(total)), big.NewInt(weight)), all)
		off := share.Sub(share, new(big.Rat).SetInt64(int64(parts[i])))
		if off.Abs(off).Cmp(one) >= 0 {
			t.Fatalf("P2.8: Share(%d, %d) = %d: part %d is off by %s", total, weights, parts, i, off)
		}
		if weight == 0 && parts[i] != 0 {
			t.Fatalf("P2.8: Share(%d, %d) = %d: a weight 0 has a part", total, weights, parts)
		}
	}
	for i := range min(len(parts), 50) {
		for k := range parts {
			if weights[i] > weights[k] && parts[i] < parts[k] {
				t.Fatalf("P2.8: Share(%d, %d) = %d: a greater weight has a smaller part", total, weights, parts)
			}
		}
	}
}

// exactShare: cent by cent to the greatest rest that has none yet.
func exactShare(total api.Money, weights []int64) []api.Money {
	all := new(big.Int)
	for _, weight := range weights {
		all.Add(all, big.NewInt(weight))
	}
	parts := make([]api.Money, len(weights))
	rests := make([]*big.Int, len(weights))
	left := total
	for i, weight := range weights {
		top := new(big.Int).Mul(big.NewInt(int64(total)), big.NewInt(weight))
		part, rest := new(big.Int).DivMod(top, all, new(big.Int))
		parts[i], rests[i] = api.Money(part.Int64()), rest
		left -= parts[i]
	}
	for ; left > 0; left-- {
		best := 0
		for i := range rests {
			if rests[i].Cmp(rests[best]) > 0 {
				best = i
			}
		}
		parts[best]++
		rests[best].SetInt64(-1)
	}
	return parts
}

func TestShareAsExact(t *testing.T) {
	for total := api.Money(0); total <= 9; total++ {
		for a := range int64(5) {
			for b := range int64(5) {
				for c := range int64(5) {
					weights := []int64{a, b, c}
					if a+b+c == 0 {
						continue
					}
					parts, errno := money.Share(total, weights)
					if errno != api.OK {
						t.Fatalf("P2.4: Share(%d, %d): %d", total, weights, errno)
					}
					checkParts(t, total, weights, parts)
				}
			}
		}
	}
	c := chance(4)
	for range 3000 {
		weights := make([]int64, 1+c.next()%30)
		for i := range weights {
			weights[i] = max(0, c.number(-money.Most/2, money.Most))
			if c.next()%3 == 0 {
				weights[i] = weights[c.next()%uint64(i+1)]
			}
		}
		weights[c.next()%uint64(len(weights))]++
		total := api.Money(max(0, c.number(-1000, money.Most)))
		parts, errno := money.Share(total, weights)
		if slices.Max(weights) <= money.Most {
			if errno != api.OK {
				t.Fatalf("P2.4: Share(%d, %d): %d", total, weights, errno)
			}
			checkParts(t, total, weights, parts)
		} else if errno != api.ErrRange {
			t.Fatalf("P2.4: Share(%d, %d): %d", total, weights, errno)
		}
	}
}
