package money_test

import (
	"math"
	"math/big"
	"slices"
	"testing"

	"lexprior/api"
	"lexprior/money"
)

// edgeAmounts: around 0, around whole and half amounts, around both bounds, and beyond them.
func edgeAmounts() []api.Money {
	l := []api.Money{math.MinInt64, math.MinInt64 + 1, math.MaxInt64 - 1, math.MaxInt64}
	for _, m := range []api.Money{0, 50, 100, 1000, 12050, math.MaxInt32, math.MaxUint32, money.Most / 2, money.Most, 2 * money.Most} {
		for near := api.Money(-2); near <= 2; near++ {
			l = append(l, m+near, -m+near)
		}
	}
	return l
}

func mayBe(m api.Money) bool {
	return m >= -1_000_000_000_000_000 && m <= 1_000_000_000_000_000
}

// chance makes numbers that look like chance but are the same in each run.
type chance uint64

func (c *chance) next() uint64 {
	*c = *c*6364136223846793005 + 1442695040888963407
	x := uint64(*c)
	return x ^ x>>31
}

// number: of some number of bits, so that small ones and great ones both come.
func (c *chance) number(from, to int64) int64 {
	n := int64(c.next() >> (1 + c.next()%63))
	if c.next()%2 == 0 {
		n = -n
	}
	return min(max(n, from), to)
}

func (c *chance) amount() api.Money {
	return api.Money(c.number(-money.Most, money.Most))
}

func TestMost(t *testing.T) {
	if money.Most != 1_000_000_000_000_000 {
		t.Errorf("P2.1: Most is %d", int64(money.Most))
	}
}

func TestCheck(t *testing.T) {
	for _, m := range edgeAmounts() {
		want := api.ErrOver
		if mayBe(m) {
			want = api.OK
		}
		if errno := money.Check(m); errno != want {
			t.Errorf("P2.1: Check(%d) = %d, want %d", m, errno, want)
		}
	}
}

func TestCompareOfAnyTwo(t *testing.T) {
	l := edgeAmounts()
	for _, a := range l {
		for _, b := range l {
			want := big.NewInt(int64(a)).Cmp(big.NewInt(int64(b)))
			if got := money.Compare(a, b); got != want {
				t.Errorf("P2.1: Compare(%d, %d) = %d, want %d", a, b, got, want)
			}
		}
	}
}

func TestSum(t *testing.T) {
	const most = money.Most
	for _, c := range []struct {
		l    []api.Money
		want api.Money
		err  api.Errno
	}{
		{nil, 0, api.OK},
		{[]api.Money{}, 0, api.OK},
		{[]api.Money{0}, 0, api.OK},
		{[]api.Money{most}, most, api.OK},
		{[]api.Money{-most}, -most, api.OK},
		{[]api.Money{most + 1}, 0, api.ErrOver},
		{[]api.Money{-most - 1}, 0, api.ErrOver},
		{[]api.Money{most + 1, -1}, 0, api.ErrOver},
		{[]api.Money{-1, most + 1}, 0, api.ErrOver},
		{[]api.Money{1, -most - 1}, 0, api.ErrOver},
		{[]api.Money{math.MinInt64, math.MinInt64}, 0, api.ErrOver},
		{[]api.Money{math.MaxInt64, math.MinInt64, 1}, 0, api.ErrOver},
		{[]api.Money{most, 1}, 0, api.ErrOver},
		{[]api.Money{-most, -1}, 0, api.ErrOver},
		{[]api.Money{most, 1, -1}, most, api.OK},
		{[]api.Money{-most, -1, 1}, -most, api.OK},
		{[]api.Money{most, 1, -most}, 1, api.OK},
		{[]api.Money{-most, -most, most, 7}, 7 - most, api.OK},
		{[]api.Money{1, 2, -5}, -2, api.OK},
	} {
		if got, errno := money.Sum(c.l); got != c.want || errno != c.err {
			t.Errorf("P2.2: Sum(%d) = %d, %d, want %d, %d", c.l, got, errno, c.want, c.err)
		}
	}
}

// TestSumBeyondAWord: sums on the way that no 64 bits hold, upwards and downwards. Where a sum wraps round is where a word's sum would look like one that may be.
func TestSumBeyondAWord(t *testing.T) {
	const many = 20_000
	for _, each := range []api.Money{money.Most, -money.Most} {
		l := slices.Repeat([]api.Money{each}, many)
		for n := 9000; n <= many; n++ {
			if got, errno := money.Sum(l[:n]); errno != api.ErrOver || got != 0 {
				t.Fatalf("P2.2: the sum of %d times %d is %d, %d", n, each, got, errno)
			}
		}
		l = append(l, slices.Repeat([]api.Money{-each}, many)...)
		for _, last := range []api.Money{0, 12, -12, money.Most, -money.Most} {
			if got, errno := money.Sum(append(l, last)); errno != api.OK || got != last {
				t.Errorf("P2.2: sums beyond a word that come back to %d: %d, %d", last, got, errno)
			}
		}
	}
	wrap := slices.Repeat([]api.Money{1 << 49}, 1<<15)
	if got, errno := money.Sum(wrap); errno != api.ErrOver || got != 0 {
		t.Errorf("P2.2: a sum of 2^64: %d, %d", got, errno)
	}
	if got, errno := money.Sum(append(wrap, 5)); errno != api.ErrOver || got != 0 {
		t.Errorf("P2.2: a sum of 2^64 + 5: %d, %d", got, errno)
	}
}

func bigSum(l []api.Money) *big.Int {
	sum := new(big.Int)
	for _, m := range l {
		sum.Add(sum, big.NewInt(int64(m)))
	}
	return sum
}

func TestSumAsExact(t *testing.T) {
	c := chance(1)
	for range 3000 {
		l := make([]api.Money, c.next()%40)
		for i := range l {
			l[i] = c.amount()
		}
		want := bigSum(l)
		got, errno := money.Sum(l)
		if want.CmpAbs(big.NewInt(money.Most)) > 0 {
			if errno != api.ErrOver || got != 0 {
				t.Fatalf("P2.2: Sum(%d) = %d, %d", l, got, errno)
			}
		} else if errno != api.OK || int64(got) != want.Int64() {
			t.Fatalf("P2.2: Sum(%d) = %d, %d, want %d", l, got, errno, want)
		}
		checkOrderAndOpposites(t, &c, l, got, errno)
	}
}

func checkOrderAndOpposites(t *testing.T, c *chance, l []api.Money, sum api.Money, err api.Errno) {
	t.Helper()
	mixed := slices.Clone(l)
	for i := range mixed {
		k := int(c.next() % uint64(len(mixed)))
		mixed[i], mixed[k] = mixed[k], mixed[i]
	}
	if got, errno := money.Sum(mixed); got != sum || errno != err {
		t.Fatalf("P2.7: Sum hangs on the order: %d: %d, %d; %d: %d, %d", l, sum, err, mixed, got, errno)
	}
	both := slices.Clone(l)
	for _, m := range mixed {
		both = append(both, -m)
	}
	if got, errno := money.Sum(both); got != 0 || errno != api.OK {
		t.Fatalf("P2.7: Sum of %d and its opposites is %d, %d", l, got, errno)
	}
}

func TestClamp(t *testing.T) {
	const most = money.Most
	for _, c := range []struct {
		m, least, most, want api.Money
		err                  api.Errno
	}{
		{5, 0, 10, 5, api.OK},
		{0, 0, 10, 0, api.OK},
		{10, 0, 10, 10, api.OK},
		{-1, 0, 10, 0, api.OK},
		{11, 0, 10, 10, api.OK},
		{3, 7, 7, 7, api.OK},
		{9, 7, 7, 7, api.OK},
		{-3, -10, -5, -5, api.OK},
		{most, -most, most, most, api.OK},
		{-most, -most, most, -most, api.OK},
		{most, -most, -most, -most, api.OK},
		{5, 10, 9, 0, api.ErrArg},
		{5, most, -most, 0, api.ErrArg},
		{most + 1, 10, 9, 0, api.ErrOver},
		{-most - 1, 0, 10, 0, api.ErrOver},
		{5, -most - 1, 10, 0, api.ErrOver},
		{5, most + 1, 10, 0, api.ErrOver},
		{5, 0, most + 1, 0, api.ErrOver},
		{5, 0, -most - 1, 0, api.ErrOver},
		{math.MinInt64, math.MinInt64, math.MaxInt64, 0, api.ErrOver},
		{5, math.MinInt64, math.MaxInt64, 0, api.ErrOver},
	} {
		if got, errno := money.Clamp(c.m, c.least, c.most); got != c.want || errno != c.err {
			t.Errorf("P2.5: Clamp(%d, %d, %d) = %d, %d, want %d, %d", c.m, c.least, c.most, got, errno, c.want, c.err)
		}
	}
}

func TestClampIsTheNearest(t *testing.T) {
	for m := api.Money(-6); m <= 6; m++ {
		for least := api.Money(-4); least <= 4; least++ {
			for most := least; most <= 4; most++ {
				want := least
				for near := least; near <= most; near++ {
					if (near-m)*(near-m) < (want-m)*(want-m) {
						want = near
					}
				}
				if got, errno := money.Clamp(m, least, most); got != want || errno != api.OK {
					t.Errorf("P2.5: Clamp(%d, %d, %d) = %d, %d, want %d", m, least, most, got, errno, want)
				}
			}
		}
	}
}
