package guards_test

import (
	"math"
	"strings"
	"testing"

	"lexprior/api"
)

func TestPrint(t *testing.T) {
	for _, each := range []struct {
		terms []api.Term
		want  string
	}{
		{nil, "0"},
		{[]api.Term{}, "0"},
		{[]api.Term{times(1, atom(income, ann))}, "income(ann)"},
		{[]api.Term{times(-1, atom(income, ann))}, "-1*income(ann)"},
		{[]api.Term{times(2, atom(income, ann))}, "2*income(ann)"},
		{[]api.Term{times(-2, atom(income, ann))}, "-2*income(ann)"},
		{[]api.Term{times(10, atom(rate))}, "10*rate"},
		{[]api.Term{times(-11, atom(rate))}, "-11*rate"},
		{[]api.Term{times(1, atom(rate))}, "rate"},
		{[]api.Term{times(greatestCoef, atom(rate))}, "16000*rate"},
		{[]api.Term{times(-greatestCoef, atom(rate))}, "-16000*rate"},
		{[]api.Term{times(1, atom(income, ann)), times(1, atom(income, ben))}, "income(ann) + income(ben)"},
		{[]api.Term{times(1, atom(income, ann)), times(-1, atom(income, ben))}, "income(ann) - income(ben)"},
		{[]api.Term{times(-1, atom(income, ann)), times(-1, atom(income, ben)), times(-1, atom(rent, ben))}, "-1*income(ann) - income(ben) - rent(ben)"},
		{[]api.Term{times(-5, atom(income, ann)), times(11, atom(income, ben)), times(-11, atom(rate)), times(1, atom(help))}, "-5*income(ann) + 11*income(ben) - 11*rate + help"},
		{[]api.Term{times(1, atom(rate)), times(greatestCoef, atom(old)), times(-greatestCoef, atom(help))}, "rate + 16000*old - 16000*help"},
		{[]api.Term{times(1, atom(shared, ann, cem)), times(3, atom(distance, ben, ann, ann, cem))}, "shared(ann, cem) + 3*distance(ben, ann, ann, cem)"},
		// Numbers behind the first of a name are told by it, too.
		{[]api.Term{times(1, atom(income, secondAnn)), times(1, atom(secondIncome, ann))}, "income(ann) + income(ann)"},
	} {
		wantPrint(t, house(), guard(api.OpLess, 0, each.terms...), "{"+each.want+" < 0}", api.OK)
		wantPrint(t, house(), guard(api.OpLeast, 1, each.terms...), "{"+each.want+" >= -0.01}", api.OK)
	}
}

func TestPrintOps(t *testing.T) {
	for n, text := range []string{"<", "<=", "==", "<>", ">=", ">"} {
		wantPrint(t, house(), guard(api.Op(n+1), -700, times(1, atom(rate))), "{rate "+text+" 7}", api.OK)
	}
}

// TestPrintConst: with its sign turned, and of more cents than a money may have, too.
func TestPrintConst(t *testing.T) {
	for _, each := range []struct {
		cents api.Money
		want  string
	}{
		{0, "0"}, {1, "-0.01"}, {-1, "0.01"}, {10, "-0.10"}, {-10, "0.10"}, {99, "-0.99"}, {-99, "0.99"}, {100, "-1"}, {-100, "1"}, {-101, "1.01"}, {1000, "-10"}, {-1050, "10.50"}, {120, "-1.20"},
		{-999_999_999_999_999, "9999999999999.99"}, {1_000_000_000_000_000, "-10000000000000"}, {-1_000_000_000_000_000, "10000000000000"},
		{1_000_000_000_000_001, "-10000000000000.01"}, {-1_000_000_000_000_001, "10000000000000.01"}, {-1_000_000_000_000_050, "10000000000000.50"}, {1_000_000_000_000_100, "-10000000000001"},
		{greatestConst - 1, "-159999999999999.99"}, {greatestConst, "-160000000000000"}, {1 - greatestConst, "159999999999999.99"}, {-greatestConst, "160000000000000"},
	} {
		wantPrint(t, house(), guard(api.OpMore, each.cents), "{0 > "+each.want+"}", api.OK)
		wantPrint(t, house(), guard(api.OpMore, each.cents, times(-1, atom(rent, ben))), "{-1*rent(ben) > "+each.want+"}", api.OK)
	}
}

func TestPrintOfNone(t *testing.T) {
	for _, g := range wrong() {
		wantPrint(t, house(), g, "", api.ErrGuard)
		wantPrint(t, api.Statute{}, g, "", api.ErrGuard)
	}
	for _, a := range []api.Atom{
		atom(preds), atom(preds, ann), atom(math.MaxInt), atom(rate, members), atom(income, math.MaxInt), atom(shared, ann, members), atom(shared, members, ann), atom(distance, ann, ann, ann, members),
	} {
		wantPrint(t, house(), guard(api.OpLess, 0, times(1, a)), "", api.ErrName)
		wantPrint(t, house(), guard(api.OpLess, 0, times(1, atom(income)), times(1, a)), "", api.ErrName)
		wantPrint(t, house(), guard(api.OpLess, 0, times(1, a), times(1, atom(math.MaxInt, math.MaxInt, 0))), "", api.ErrName)
		// What may not be goes ahead.
		wantPrint(t, house(), guard(0, 0, times(1, a)), "", api.ErrGuard)
		wantPrint(t, house(), guard(api.OpLess, math.MinInt64, times(1, a)), "", api.ErrGuard)
		wantPrint(t, house(), guard(api.OpLess, 0, times(0, a)), "", api.ErrGuard)
	}
	wantPrint(t, api.Statute{}, guard(api.OpLess, 0, times(1, atom(0))), "", api.ErrName)
	wantPrint(t, api.Statute{Preds: []api.PredText{{Name: "p"}}}, guard(api.OpLess, 0, times(1, atom(0, 0))), "", api.ErrName)
	wantPrint(t, api.Statute{Members: []api.MemberText{{Name: "p"}}}, guard(api.OpLess, 0, times(1, atom(0, 0))), "", api.ErrName)
	wantPrint(t, api.Statute{}, guard(api.OpLess, 0), "{0 < 0}", api.OK)
}

// TestPrintOddNames: a name is told as it is.
func TestPrintOddNames(t *testing.T) {
	long := strings.Repeat("1* + - ", 1000)
	s := api.Statute{Preds: []api.PredText{{Name: ""}, {Name: "\xff%s\x00"}, {Name: long}}, Members: []api.MemberText{{Name: ""}, {Name: "é, )"}}}
	wantPrint(t, s, guard(api.OpEqual, 0, times(1, atom(0)), times(-1, atom(1, 0, 1)), times(3, atom(2))), "{ - \xff%s\x00(, é, )) + 3*"+long+" == 0}", api.OK)
}
