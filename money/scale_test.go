package money_test

import (
	"math"
	"math/big"
	"testing"

	"lexprior/api"
	"lexprior/money"
)

const billion = 1_000_000_000

func TestRoundNumbers(t *testing.T) {
	for i, r := range []money.Round{money.RoundDown, money.RoundUp, money.RoundFloor, money.RoundCeil, money.RoundHalf, money.RoundEven} {
		if int(r) != i+1 {
			t.Errorf("P2.3: the rounding %d has the number %d", i+1, r)
		}
	}
}

func TestScaleRoundings(t *testing.T) {
	for _, c := range []struct {
		m        api.Money
		num, den int64
		want     [6]api.Money
	}{
		{1, 1, 2, [6]api.Money{0, 1, 0, 1, 1, 0}},
		{-1, 1, 2, [6]api.Money{0, -1, -1, 0, -1, 0}},
		{3, 1, 2, [6]api.Money{1, 2, 1, 2, 2, 2}},
		{-3, 1, 2, [6]api.Money{-1, -2, -2, -1, -2, -2}},
		{3, -1, 2, [6]api.Money{-1, -2, -2, -1, -2, -2}},
		{-3, -1, 2, [6]api.Money{1, 2, 1, 2, 2, 2}},
		{5, 1, 2, [6]api.Money{2, 3, 2, 3, 3, 2}},
		{1, 1, 3, [6]api.Money{0, 1, 0, 1, 0, 0}},
		{2, 1, 3, [6]api.Money{0, 1, 0, 1, 1, 1}},
		{-2, 1, 3, [6]api.Money{0, -1, -1, 0, -1, -1}},
		{4, 1, 2, [6]api.Money{2, 2, 2, 2, 2, 2}},
		{-4, 1, 2, [6]api.Money{-2, -2, -2, -2, -2, -2}},
		{0, -7, 3, [6]api.Money{}},
		{7, 0, 3, [6]api.Money{}},
		{-7, 0, 3, [6]api.Money{}},
		{1, 1, billion, [6]api.Money{0, 1, 0, 1, 0, 0}},
		{-1, 1, billion, [6]api.Money{0, -1, -1, 0, 0, 0}},
		{1, billion/2 - 1, billion, [6]api.Money{0, 1, 0, 1, 0, 0}},
		{1, billion / 2, billion, [6]api.Money{0, 1, 0, 1, 1, 0}},
		{1, billion/2 + 1, billion, [6]api.Money{0, 1, 0, 1, 1, 1}},
	} {
		for i, want := range c.want {
			if got, errno := money.Scale(c.m, c.num, c.den, money.Round(i+1)); got != want || errno != api.OK {
				t.Errorf("P2.3: Scale(%d, %d, %d, %d) = %d, %d, want %d", c.m, c.num, c.den, i+1, got, errno, want)
			}
		}
	}
}

func TestScaleErrors(t *testing.T) {
	const most = money.Most
	for _, c := range []struct {
		m        api.Money
		num, den int64
		r        money.Round
		err      api.Errno
	}{
		{most + 1, 1, 1, 1, api.ErrOver},
		{-most - 1, 1, 1, 1, api.ErrOver},
		{math.MinInt64, 0, 0, 0, api.ErrOver},
		{math.MaxInt64, 0, 1, 1, api.ErrOver},
		{most + 1, billion + 1, 0, 7, api.ErrOver},
		{5, 1, 0, 1, api.ErrRange},
		{0, 0, 0, 1, api.ErrRange},
		{5, 1, -1, 1, api.ErrRange},
		{5, 1, billion + 1, 1, api.ErrRange},
		{5, 1, math.MinInt64, 1, api.ErrRange},
		{5, 1, math.MaxInt64, 1, api.ErrRange},
		{5, billion + 1, 1, 1, api.ErrRange},
		{5, -billion - 1, 1, 1, api.ErrRange},
		{5, math.MinInt64, 1, 1, api.ErrRange},
		{5, math.MaxInt64, 1, 1, api.ErrRange},
		{0, billion + 1, 1, 1, api.ErrRange},
		{5, 1, 0, 0, api.ErrRange},
		{5, billion + 1, 1, 7, api.ErrRange},
		{5, 1, 1, 0, api.ErrArg},
		{5, 1, 1, -1, api.ErrArg},
		{5, 1, 1, 7, api.ErrArg},
		{0, 0, 1, 7, api.ErrArg},
		{5, 1, 1, math.MinInt, api.ErrArg},
		{5, 1, 1, math.MaxInt, api.ErrArg},
		{most, 2, 1, 0, api.ErrArg},
		{most, billion, 1, 7, api.ErrArg},
		{most, 2, 1, 1, api.ErrOver},
		{most, -2, 1, 3, api.ErrOver},
		{-most, 2, 1, 4, api.ErrOver},
		{most, billion, 1, 1, api.ErrOver},
		{most, -billion, 1, 1, api.ErrOver},
		{-most, -billion, 2, 6, api.ErrOver},
		{most, billion, 54210, 1, api.ErrOver},
		{most, billion, 54211, 1, api.ErrOver},
		{most, billion, billion - 1, 1, api.ErrOver},
		{most - 1, billion, billion - 1, 1, api.ErrOver},
	} {
		if got, errno := money.Scale(c.m, c.num, c.den, c.r); got != 0 || errno != c.err {
			t.Errorf("P2.3: Scale(%d, %d, %d, %d) = %d, %d, want %d", c.m, c.num, c.den, c.r, got, errno, c.err)
		}
	}
}

// TestScaleAtTheBound: whether a product may be hangs on its rounding: most*2/2 and what lies a part of a cent around it.
func TestScaleAtTheBound(t *testing.T) {
	const most = money.Most
	for _, m := range []api.Money{most, -most, most - 1, 1 - most} {
		for _, d := range []int64{1, 2, 3, 7, billion} {
			if got, errno := money.Scale(m, d, d, money.RoundUp); got != m || errno != api.OK {
				t.Errorf("P2.3: Scale(%d, %d, %d, up) = %d, %d", m, d, d, got, errno)
			}
			if got, errno := money.Scale(m, -d, d, money.RoundUp); got != -m || errno != api.OK {
				t.Errorf("P2.3: Scale(%d, %d, %d, up) = %d, %d", m, -d, d, got, errno)
			}
		}
	}
	// 3 * 666666666666667 / 2 is Most and half a cent.
	for i, fits := range []bool{true, false, true, false, false, true} {
		checkFits(t, 666_666_666_666_667, money.Round(i+1), fits, most)
	}
	for i, fits := range []bool{true, false, false, true, false, true} {
		checkFits(t, -666_666_666_666_667, money.Round(i+1), fits, -most)
	}
	// (2^65 - 1) / 2: its whole cents fill a word, one more wraps round to 0.
	checkScale(t, 145_295_143_558_111, 253_921, 2)
	checkScale(t, -145_295_143_558_111, 253_921, 2)
}

func checkFits(t *testing.T, m api.Money, r money.Round, fits bool, bound api.Money) {
	t.Helper()
	want, err := bound, api.OK
	if !fits {
		want, err = 0, api.ErrOver
	}
	if got, errno := money.Scale(m, 3, 2, r); got != want || errno != err {
		t.Errorf("P2.3: Scale(%d, 3, 2, %d) = %d, %d, want %d, %d", m, r, got, errno, want, err)
	}
}

// exactScale: the rounding of m * num / den by whole numbers of any size.
func exactScale(m api.Money, num, den int64, r money.Round) *big.Int {
	top := new(big.Int).Mul(big.NewInt(int64(m)), big.NewInt(num))
	bottom := big.NewInt(den)
	floor, rest := new(big.Int).DivMod(top, bottom, new(big.Int))
	ceil := new(big.Int).Set(floor)
	if rest.Sign() != 0 {
		ceil.Add(ceil, big.NewInt(1))
	}
	inner, outer := floor, ceil
	if top.Sign() < 0 {
		inner, outer = ceil, floor
	}
	half := rest.Lsh(rest, 1).Cmp(bottom)
	switch {
	case r == money.RoundDown:
		return inner
	case r == money.RoundUp:
		return outer
	case r == money.RoundFloor:
		return floor
	case r == money.RoundCeil:
		return ceil
	case half < 0:
		return floor
	case half > 0:
		return ceil
	case r == money.RoundHalf:
		return outer
	case floor.Bit(0) == 0:
		return floor
	}
	return ceil
}

func checkScale(t *testing.T, m api.Money, num, den int64) {
	t.Helper()
	for r := money.RoundDown; r <= money.RoundEven; r++ {
		want := exactScale(m, num, den, r)
		got, errno := money.Scale(m, num, den, r)
		if want.CmpAbs(big.NewInt(money.Most)) > 0 {
			if got != 0 || errno != api.ErrOver {
				t.Fatalf("P2.3: Scale(%d, %d, %d, %d) = %d, %d, exact %d", m, num, den, r, got, errno, want)
			}
		} else if errno != api.OK || int64(got) != want.Int64() {
			t.Fatalf("P2.3: Scale(%d, %d, %d, %d) = %d, %d, want %d", m, num, den, r, got, errno, want)
		}
	}
	checkOpposites(t, m, num, den)
	checkNear(t, m, num, den)
}

// checkOpposites: of four of the roundings.
func checkOpposites(t *testing.T, m api.Money, num, den int64) {
	t.Helper()
	for _, r := range []money.Round{money.RoundDown, money.RoundUp, money.RoundHalf, money.RoundEven} {
		a, errnoA := money.Scale(m, num, den, r)
		b, errnoB := money.Scale(-m, num, den, r)
		if a != -b || errnoA != errnoB {
			t.Fatalf("P2.9: Scale(%d, %d, %d, %d) = %d, %d; of the opposite %d, %d", m, num, den, r, a, errnoA, b, errnoB)
		}
	}
}

// checkNear: floor and ceil enclose the exact value, the nearest are off by at most half a cent, a den of 1 rounds nothing.
func checkNear(t *testing.T, m api.Money, num, den int64) {
	t.Helper()
	exact := new(big.Rat).Mul(new(big.Rat).SetInt64(int64(m)), big.NewRat(num, den))
	off := func(r money.Round) (*big.Rat, bool) {
		got, errno := money.Scale(m, num, den, r)
		return new(big.Rat).Sub(new(big.Rat).SetInt64(int64(got)), exact), errno == api.OK
	}
	below, okFloor := off(money.RoundFloor)
	above, okCeil := off(money.RoundCeil)
	if okFloor && below.Sign() > 0 || okCeil && above.Sign() < 0 {
		t.Fatalf("P2.9: Scale(%d, %d, %d): floor is off by %s, ceil by %s", m, num, den, below, above)
	}
	if okFloor && okCeil && above.Sub(above, below).Cmp(big.NewRat(1, 1)) > 0 {
		t.Fatalf("P2.9: Scale(%d, %d, %d): floor and ceil differ by %s", m, num, den, above)
	}
	for _, r := range []money.Round{money.RoundHalf, money.RoundEven} {
		if near, ok := off(r); ok && near.Abs(near).Cmp(big.NewRat(1, 2)) > 0 {
			t.Fatalf("P2.9: Scale(%d, %d, %d, %d) is off by %s", m, num, den, r, near)
		}
	}
	for r := money.RoundDown; den == 1 && r <= money.RoundEven; r++ {
		if rounded, ok := off(r); ok && rounded.Sign() != 0 {
			t.Fatalf("P2.9: Scale(%d, %d, 1, %d) rounds", m, num, r)
		}
	}
}

func TestScaleAsExact(t *testing.T) {
	for m := api.Money(-12); m <= 12; m++ {
		for num := int64(-5); num <= 5; num++ {
			for den := int64(1); den <= 8; den++ {
				checkScale(t, m, num, den)
			}
		}
	}
	for _, m := range edgeAmounts() {
		if !mayBe(m) {
			continue
		}
		for _, num := range []int64{-billion, 1 - billion, -3, -1, 0, 1, 2, billion / 2, billion - 1, billion} {
			for _, den := range []int64{1, 2, 3, 54210, 54211, billion / 2, billion - 1, billion} {
				checkScale(t, m, num, den)
			}
		}
	}
	c := chance(3)
	for range 4000 {
		checkScale(t, c.amount(), c.number(-billion, billion), max(1, c.number(-billion, billion)))
		checkScale(t, c.amount(), c.number(-billion, billion), 2*max(1, c.number(1, billion/2)))
	}
}
