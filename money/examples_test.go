package money_test

import (
	"slices"
	"testing"

	"lexprior/api"
	"lexprior/money"
)

// TestExamples: those of the chapter.
func TestExamples(t *testing.T) {
	if m, errno := money.Parse("120.50"); m != 12050 || errno != api.OK {
		t.Errorf("example 1: Parse(120.50) = %d, %d", m, errno)
	}
	for _, s := range []string{"120.5", "-0", "01", "-0.00", "1."} {
		if m, errno := money.Parse(s); m != 0 || errno != api.ErrMoney {
			t.Errorf("example 1: Parse(%s) = %d, %d", s, m, errno)
		}
	}
	if m, errno := money.Parse("10000000000000.01"); m != 0 || errno != api.ErrOver {
		t.Errorf("example 1: Parse(10000000000000.01) = %d, %d", m, errno)
	}
	if s, errno := money.Print(-5); s != "-0.05" || errno != api.OK {
		t.Errorf("example 1: Print(-5) = %s, %d", s, errno)
	}
	checkRoundings(t, 1, []api.Money{0, 1, 0, 1, 1, 0})
	checkRoundings(t, -3, []api.Money{-1, -2, -2, -1, -2, -2})
	if l, errno := money.Share(1000, []int64{1, 1, 1}); !slices.Equal(l, []api.Money{334, 333, 333}) || errno != api.OK {
		t.Errorf("example 3: Share(1000, [1, 1, 1]) = %d, %d", l, errno)
	}
	if l, errno := money.Share(5, []int64{0, 3, 3}); !slices.Equal(l, []api.Money{0, 3, 2}) || errno != api.OK {
		t.Errorf("example 3: Share(5, [0, 3, 3]) = %d, %d", l, errno)
	}
}

func checkRoundings(t *testing.T, m api.Money, want []api.Money) {
	t.Helper()
	for i, r := range []money.Round{money.RoundDown, money.RoundUp, money.RoundFloor, money.RoundCeil, money.RoundHalf, money.RoundEven} {
		if got, errno := money.Scale(m, 1, 2, r); got != want[i] || errno != api.OK {
			t.Errorf("example 2: Scale(%d, 1, 2, %d) = %d, %d, want %d", m, r, got, errno, want[i])
		}
	}
}
