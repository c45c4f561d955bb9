package money_test

import (
	"math"
	"slices"
	"strings"
	"sync"
	"testing"

	"lexprior/api"
	"lexprior/money"
)

func TestAnswersAreNewMemory(t *testing.T) {
	weights := []int64{1, 2, 4}
	first, _ := money.Share(10, weights)
	second, _ := money.Share(10, weights)
	first = first[:cap(first)]
	for i := range first {
		first[i] = -77
	}
	if want := []api.Money{1, 3, 6}; !slices.Equal(second, want) {
		t.Errorf("P2.10: two answers of Share share memory: %d", second)
	}
	third, _ := money.Share(10, weights)
	if want := []api.Money{1, 3, 6}; !slices.Equal(third, want) {
		t.Errorf("P2.10: an answer of Share shares memory with what is kept: %d", third)
	}
}

func TestArgumentsAreNotChangedNorKept(t *testing.T) {
	weights := append(make([]int64, 0, 8), 1, 4, 2)
	whole := slices.Clone(weights[:cap(weights)])
	parts, _ := money.Share(10, weights)
	if !slices.Equal(weights[:cap(weights)], whole) {
		t.Errorf("P2.10: Share changed its weights: %d", weights)
	}
	for i := range weights {
		weights[i] = -77
	}
	if want := []api.Money{1, 6, 3}; !slices.Equal(parts, want) {
		t.Errorf("P2.10: Share's parts share memory with its weights: %d", parts)
	}
	l := append(make([]api.Money, 0, 8), 3, -1, money.Most, -money.Most)
	all := slices.Clone(l[:cap(l)])
	money.Sum(l)
	if !slices.Equal(l[:cap(l)], all) {
		t.Errorf("P2.10: Sum changed its amounts: %d", l)
	}
}

func TestNilAndEmptyAreOne(t *testing.T) {
	a, errnoA := money.Sum(nil)
	b, errnoB := money.Sum([]api.Money{})
	if a != b || errnoA != errnoB {
		t.Error("P1: Sum tells nil from empty")
	}
	_, errnoA = money.Share(5, nil)
	_, errnoB = money.Share(5, []int64{})
	if errnoA != errnoB {
		t.Error("P1: Share tells nil from empty")
	}
}

// TestAnyArguments: nothing panics, and beside an error there is nothing, whatever numbers there are.
func TestAnyArguments(t *testing.T) {
	numbers := []int64{math.MinInt64, math.MinInt64 + 1, -money.Most - 1, -money.Most, -billion - 1, -billion, -1, 0, 1, 2, billion, billion + 1, money.Most, money.Most + 1, math.MaxInt64}
	none := func(call string, zero bool, errno api.Errno) {
		t.Helper()
		if errno != api.OK && !zero {
			t.Errorf("P4: %s answers something beside an error", call)
		}
	}
	for _, a := range numbers {
		m := api.Money(a)
		money.Check(m)
		text, errno := money.Print(m)
		none("Print", text == "", errno)
		for _, b := range numbers {
			money.Compare(m, api.Money(b))
			sum, errno := money.Sum([]api.Money{m, api.Money(b), m})
			none("Sum", sum == 0, errno)
			parts, errno := money.Share(m, []int64{b, a, 1})
			none("Share", len(parts) == 0, errno)
			for _, c := range numbers {
				clamped, errno := money.Clamp(m, api.Money(b), api.Money(c))
				none("Clamp", clamped == 0, errno)
				for r := money.Round(-1); r <= 8; r++ {
					scaled, errno := money.Scale(m, b, c, r)
					none("Scale", scaled == 0, errno)
				}
			}
		}
	}
}

func FuzzParse(f *testing.F) {
	for _, s := range []string{"", "-", "0", "-0.05", "120.50", "10000000000000.01", "1.00", strings.Repeat("9", 40)} {
		f.Add(s)
	}
	f.Fuzz(func(t *testing.T, s string) {
		m, errno := money.Parse(s)
		switch errno {
		case api.OK:
			if back, errno := money.Print(m); back != s || errno != api.OK {
				t.Errorf("P2.6: Print of Parse(%q) is %q, %d", s, back, errno)
			}
		case api.ErrMoney, api.ErrOver:
			if m != 0 {
				t.Errorf("P4: Parse(%q) = %d beside an error", s, m)
			}
		default:
			t.Errorf("P2.1: Parse(%q): %d", s, errno)
		}
	})
}

// TestSameAnswersAtOneTime: calls that run beside each other answer as they do alone.
func TestSameAnswersAtOneTime(t *testing.T) {
	weights := []int64{5, 0, 3, 3, 9, money.Most}
	want, _ := money.Share(money.Most-7, weights)
	var workers sync.WaitGroup
	for range 8 {
		workers.Go(func() {
			for range 200 {
				parts, _ := money.Share(money.Most-7, weights)
				sum, _ := money.Sum(parts)
				scaled, _ := money.Scale(-3, 1, 2, money.RoundHalf)
				text, _ := money.Print(scaled)
				if !slices.Equal(parts, want) || sum != money.Most-7 || text != "-0.02" {
					t.Error("P3: another answer to the same arguments")
				}
			}
		})
	}
	workers.Wait()
}
