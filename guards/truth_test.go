package guards_test

import (
	"cmp"
	"math"
	"slices"
	"testing"

	"lexprior/api"
)

// wantSign: by these numbers the guard's sum is below 0, 0 or above it, whatever its Op.
func wantSign(t testing.TB, g api.Guard, l []api.Number, sign int) {
	t.Helper()
	for _, op := range allOps() {
		g.Op = op
		wantTruth(t, g, l, true, signHolds(op, sign))
	}
}

// signHolds: which signs an Op takes.
func signHolds(op api.Op, sign int) bool {
	signs := [][]int{api.OpLess: {-1}, api.OpMost: {-1, 0}, api.OpEqual: {0}, api.OpUnequal: {-1, 1}, api.OpLeast: {0, 1}, api.OpMore: {1}}
	return slices.Contains(signs[op], sign)
}

func TestTruth(t *testing.T) {
	a, b := atom(income, ann), atom(rent, ann)
	for value := api.Money(-4); value <= 4; value++ {
		wantSign(t, guard(0, 0, times(1, a)), []api.Number{number(a, value)}, cmp.Compare(value, 0))
		wantSign(t, guard(0, -2, times(1, a)), []api.Number{number(a, value)}, cmp.Compare(value, 2))
		wantSign(t, guard(0, 3, times(2, a)), []api.Number{number(a, value)}, cmp.Compare(2*value, -3))
		wantSign(t, guard(0, 3, times(-3, a)), []api.Number{number(a, value)}, cmp.Compare(1, value))
		wantSign(t, guard(0, value), nil, cmp.Compare(value, 0))
		wantSign(t, guard(0, value, times(1, a), times(-2, b)), []api.Number{number(a, 7), number(b, 3)}, cmp.Compare(value, -1))
		wantSign(t, guard(0, value, times(1, a), times(-2, b)), []api.Number{number(b, 3), number(a, 7)}, cmp.Compare(value, -1))
	}
	wantSign(t, guard(0, greatestConst), nil, 1)
	wantSign(t, guard(0, -greatestConst), nil, -1)
}

// TestWithoutNumber: one atom that has none is enough.
func TestWithoutNumber(t *testing.T) {
	a, b := atom(income, ann), atom(income, ben)
	others := []api.Number{number(atom(income), 1), number(atom(income, ann, ann), 1), number(atom(rent, ann), 1), number(worth(a, 1), 1), number(worth(a, -1), 1), number(atom(-1), 1)}
	for _, op := range allOps() {
		for _, l := range [][]api.Number{nil, {}, others} {
			wantTruth(t, guard(op, 0, times(1, a)), l, false, false)
			wantTruth(t, guard(op, 0, times(1, a), times(1, b)), append(slices.Clone(l), number(b, 1)), false, false)
			wantTruth(t, guard(op, 0, times(1, a), times(1, b)), append(slices.Clone(l), number(a, 1)), false, false)
		}
	}
	wantSign(t, guard(0, 0, times(1, a)), append(others, number(a, 0)), 0)
	wantSign(t, guard(0, 0, times(1, a)), append(others, number(a, -1), number(b, 9)), -1)
}

// TestTwoNumbers: the first counts, wherever it stands.
func TestTwoNumbers(t *testing.T) {
	a, b := atom(income, ann), atom(income, ben)
	wantSign(t, guard(0, 0, times(1, a)), []api.Number{number(a, -1), number(a, 1)}, -1)
	wantSign(t, guard(0, 0, times(1, a)), []api.Number{number(a, 1), number(a, -1)}, 1)
	wantSign(t, guard(0, 0, times(1, a)), []api.Number{number(a, 0), number(a, -1), number(a, 1)}, 0)
	wantSign(t, guard(0, 0, times(1, a), times(-1, b)), []api.Number{number(b, 5), number(a, 5), number(a, 6), number(b, 4)}, 0)
	wantSign(t, guard(0, 0, times(1, a)), []api.Number{number(worth(a, 5), 3), number(a, -2), number(a, 3)}, -1)
}

// TestSumsBeyondAWord: numbers that no money may be; a sum of 2^64 has a low word of 0.
func TestSumsBeyondAWord(t *testing.T) {
	a, b := atom(income, ann), atom(income, ben)
	for _, sign := range []int{1, -1} {
		s, m := int64(sign), api.Money(sign)
		wantSign(t, guard(0, 0, times(4*s, a)), []api.Number{number(a, 1<<62)}, sign)
		wantSign(t, guard(0, 0, times(4, a)), []api.Number{number(a, m<<62)}, sign)
		wantSign(t, guard(0, 0, times(16*s, a)), []api.Number{number(a, 1<<62)}, sign)
		wantSign(t, guard(0, -m, times(2*s, a)), []api.Number{number(a, 1<<62)}, sign)
		wantSign(t, guard(0, 0, times(3*s, a)), []api.Number{number(a, math.MaxInt64)}, sign)
		wantSign(t, guard(0, 0, times(-3*s, a)), []api.Number{number(a, math.MinInt64)}, sign)
		wantSign(t, guard(0, m, times(s, a)), []api.Number{number(a, math.MaxInt64)}, sign)
		wantSign(t, guard(0, greatestConst*m, times(s, a)), []api.Number{number(a, math.MaxInt64)}, sign)
		wantSign(t, guard(0, -greatestConst*m, times(-s, a)), []api.Number{number(a, math.MinInt64)}, sign)
		wantSign(t, guard(0, m, times(s, a), times(s, b)), []api.Number{number(a, math.MaxInt64), number(b, math.MinInt64)}, 0)
		wantSign(t, guard(0, 2*m, times(s, a), times(s, b)), []api.Number{number(a, math.MaxInt64), number(b, math.MinInt64)}, sign)
		wantSign(t, guard(0, 0, times(s, a), times(s, b)), []api.Number{number(a, math.MaxInt64), number(b, math.MinInt64)}, -sign)
		wantSign(t, guard(0, 0, times(s, a), times(s, b)), []api.Number{number(a, math.MaxInt64), number(b, math.MaxInt64)}, sign)
		wantSign(t, guard(0, 0, times(s, a), times(s, b)), []api.Number{number(a, math.MinInt64), number(b, math.MinInt64)}, -sign)
		wantSign(t, guard(0, 0, times(greatestCoef*s, a), times(-greatestCoef*s, b)), []api.Number{number(a, math.MaxInt64), number(b, math.MaxInt64)}, 0)
		wantSign(t, guard(0, m, times(greatestCoef*s, a), times(-greatestCoef*s, b)), []api.Number{number(a, math.MaxInt64), number(b, math.MaxInt64)}, sign)
		wantSign(t, guard(0, 0, times(greatestCoef*s, a), times(-greatestCoef*s, b)), []api.Number{number(a, math.MinInt64), number(b, math.MinInt64+1)}, -sign)
	}
}

// TestGreatestSums: as many terms as there may be, with the greatest Coefs, numbers and Const.
func TestGreatestSums(t *testing.T) {
	for _, value := range []api.Money{math.MaxInt64, math.MinInt64, 1 << 62, -1 << 62} {
		for _, coef := range []int64{greatestCoef, -greatestCoef} {
			terms := manyTerms(16)
			var l []api.Number
			for n := range terms {
				terms[n].Coef = coef
				l = append(l, number(terms[n].Atom, value))
			}
			sign := 1
			if (coef < 0) != (value < 0) {
				sign = -1
			}
			wantSign(t, guard(0, 0, terms...), l, sign)
			wantSign(t, guard(0, greatestConst, terms...), l, sign)
			wantSign(t, guard(0, -greatestConst, terms...), l, sign)
			for n := range 8 {
				terms[n].Coef = -coef
			}
			wantSign(t, guard(0, 0, terms...), l, 0)
			wantSign(t, guard(0, 1, terms...), l, 1)
			wantSign(t, guard(0, -1, terms...), l, -1)
		}
	}
}

func TestTruthOfNone(t *testing.T) {
	for _, g := range wrong() {
		var l []api.Number
		for _, term := range g.Terms {
			l = append(l, number(term.Atom, 1))
		}
		wantTruth(t, g, l, false, false)
		wantTruth(t, g, nil, false, false)
	}
}
