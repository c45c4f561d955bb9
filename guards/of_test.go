package guards_test

import (
	"math"
	"slices"
	"testing"

	"lexprior/api"
	"lexprior/money"
)

// asked is what Of is asked with.
type asked struct {
	text    api.GuardText
	names   []string
	members []int
}

func (a asked) want(t testing.TB, want api.Guard, errno api.Errno) {
	t.Helper()
	wantOf(t, house(), a.text, a.names, a.members, want, errno)
}

func compared(op api.Op, left, right []api.TermText) api.GuardText {
	return api.GuardText{Left: left, Op: op, Right: right}
}

// wantTerms: of X = ben and Y = cem.
func wantTerms(t testing.TB, left, right []api.TermText, cents api.Money, terms ...api.Term) {
	t.Helper()
	a := asked{compared(api.OpMost, left, right), []string{"X", "Y"}, []int{ben, cem}}
	a.want(t, guard(api.OpMost, cents, terms...), api.OK)
}

func wantNone(t testing.TB, left, right []api.TermText, errno api.Errno) {
	t.Helper()
	a := asked{compared(api.OpMost, left, right), []string{"X", "Y"}, []int{ben, cem}}
	a.want(t, api.Guard{}, errno)
}

func TestOf(t *testing.T) {
	zero := side(moneyText(0))
	wantTerms(t, side(textOf(1, "income", "X")), zero, 0, times(1, atom(income, ben)))
	wantTerms(t, zero, side(textOf(1, "income", "X")), 0, times(-1, atom(income, ben)))
	wantTerms(t, side(textOf(-3, "rate")), zero, 0, times(-3, atom(rate)))
	wantTerms(t, zero, side(textOf(-3, "rate")), 0, times(3, atom(rate)))
	wantTerms(t, side(moneyText(500)), side(moneyText(-700)), 1200)
	wantTerms(t, side(moneyText(500), moneyText(1)), side(moneyText(700), moneyText(20)), 501-720)
	wantTerms(t, side(textOf(2, "shared", "Y", "ann")), side(textOf(1, "shared", "ann", "Y"), moneyText(5)), -5, times(-1, atom(shared, ann, cem)), times(2, atom(shared, cem, ann)))
	wantTerms(t, side(textOf(1, "distance", "X", "Y", "ann", "cem")), zero, 0, times(1, atom(distance, ben, cem, ann, cem)))
	// They rise, in whichever order they stand; fewer arguments are lower.
	wantTerms(t, side(textOf(1, "rate"), textOf(2, "income", "Y"), textOf(3, "income", "X"), textOf(4, "income"), textOf(5, "income", "X", "ann")), side(textOf(6, "rent", "ann")), 0,
		times(4, atom(income)), times(3, atom(income, ben)), times(5, atom(income, ben, ann)), times(2, atom(income, cem)), times(-6, atom(rent, ann)), times(1, atom(rate)))
	// Of a predicate neither its sort nor its kinds are asked.
	wantTerms(t, side(textOf(1, "old"), textOf(2, "help", "X", "X", "X")), side(textOf(7, "rate", "ann", "ann", "ann", "ann")), 0, times(-7, atom(rate, ann, ann, ann, ann)), times(1, atom(old)), times(2, atom(help, ben, ben, ben)))
	for _, op := range allOps() {
		asked{text: compared(op, side(textOf(1, "rate")), zero)}.want(t, guard(op, 0, times(1, atom(rate))), api.OK)
	}
}

// TestOneAtom: its terms come together, from both sides, under whatever names.
func TestOneAtom(t *testing.T) {
	x, y, b := textOf(2, "income", "X"), textOf(5, "income", "Y"), textOf(3, "income", "ben")
	wantTerms(t, side(x, b), side(moneyText(0)), 0, times(5, atom(income, ben)))
	wantTerms(t, side(x), side(b), 0, times(-1, atom(income, ben)))
	wantTerms(t, side(x, y, b), side(b, b), 0, times(-1, atom(income, ben)), times(5, atom(income, cem)))
	both := asked{compared(api.OpMost, side(x, y), side(moneyText(1))), []string{"X", "Y"}, []int{7, 7}}
	both.want(t, guard(api.OpMost, -1, times(7, atom(income, 7))), api.OK)
	// Coefs that come to as much as there may be, and Const.
	most, least := slices.Repeat(side(textOf(1000, "rate")), 8), slices.Repeat(side(textOf(-1000, "rate")), 8)
	wantTerms(t, most, least, 0, times(greatestCoef, atom(rate)))
	wantTerms(t, least, most, 0, times(-greatestCoef, atom(rate)))
	rich, poor := slices.Repeat(side(moneyText(money.Most)), 8), slices.Repeat(side(moneyText(-money.Most)), 8)
	wantTerms(t, rich, poor, greatestConst)
	wantTerms(t, poor, rich, -greatestConst)
}

func TestTermsThatComeToNothing(t *testing.T) {
	x, b, r := textOf(2, "income", "X"), textOf(2, "income", "ben"), textOf(1, "rate")
	wantTerms(t, side(x), side(x), 0)
	wantTerms(t, side(x), side(b), 0)
	wantTerms(t, side(x, textOf(-2, "income", "ben")), side(moneyText(3)), -3)
	wantTerms(t, side(x, r), side(b), 0, times(1, atom(rate)))
	wantTerms(t, side(r, x), side(b, r), 0)
	wantTerms(t, side(x, r, x), side(textOf(4, "income", "X")), 0, times(1, atom(rate)))
	wantTerms(t, side(x, textOf(1, "income", "Y"), r), side(textOf(1, "income", "cem"), moneyText(9)), -9, times(2, atom(income, ben)), times(1, atom(rate)))
	// One that was nothing on the way.
	wantTerms(t, side(x, textOf(-2, "income", "X"), r, textOf(7, "income", "X")), side(moneyText(0)), 0, times(7, atom(income, ben)), times(1, atom(rate)))
}

// TestNames: of variables and members.
func TestNames(t *testing.T) {
	text := compared(api.OpLess, side(textOf(1, "shared", "X", "ann")), side(moneyText(0)))
	want := func(names []string, numbers []int, args ...int) {
		t.Helper()
		asked{text, names, numbers}.want(t, guard(api.OpLess, 0, times(1, atom(shared, args...))), api.OK)
	}
	want([]string{"X"}, []int{0}, 0, ann)
	// The first counts of a variable that stands twice, whether or not it may be.
	want([]string{"X", "X"}, []int{5, 6}, 5, ann)
	want([]string{"Y", "X", "X"}, []int{4, 5, -6}, 5, ann)
	asked{text, []string{"X", "X"}, []int{-5, 6}}.want(t, api.Guard{}, api.ErrArg)
	// A name that is among names is no member's.
	want([]string{"X", "ann"}, []int{1, 9}, 1, 9)
	want([]string{"ann", "X"}, []int{9, 1}, 1, 9)
	// Members that no statute has; numbers below 0 that no argument asks for.
	want([]string{"X"}, []int{members}, members, ann)
	want([]string{"X"}, []int{math.MaxInt}, math.MaxInt, ann)
	want([]string{"X", "Y"}, []int{2, -1}, 2, ann)
	want([]string{"", "X"}, []int{math.MinInt, 2}, 2, ann)
	asked{text, []string{"X"}, []int{-1}}.want(t, api.Guard{}, api.ErrArg)
	asked{text, []string{"X"}, []int{math.MinInt}}.want(t, api.Guard{}, api.ErrArg)
	asked{text, []string{"X", "ann"}, []int{1, -1}}.want(t, api.Guard{}, api.ErrArg)
	asked{text, nil, nil}.want(t, api.Guard{}, api.ErrName)
	asked{text, []string{"x"}, []int{0}}.want(t, api.Guard{}, api.ErrName)
	asked{text, []string{"Y"}, []int{0}}.want(t, api.Guard{}, api.ErrName)
	// A name may be any text, and a member's too.
	odd := api.Statute{Members: []api.MemberText{{Name: "é\x00"}, {Name: ""}, {Name: ""}}, Preds: []api.PredText{{Name: "\xff X"}}}
	wantOf(t, odd, compared(api.OpLess, side(textOf(1, "\xff X", "", "é\x00", "\xfe")), side(moneyText(0))), []string{"\xfe"}, []int{8}, guard(api.OpLess, 0, times(1, atom(0, 1, 0, 8))), api.OK)
	wantOf(t, api.Statute{}, compared(api.OpLess, side(textOf(1, "rate")), side(moneyText(0))), nil, nil, api.Guard{}, api.ErrName)
	wantOf(t, api.Statute{}, compared(api.OpLess, side(moneyText(4)), side(moneyText(0))), nil, nil, guard(api.OpLess, 4), api.OK)
}

func TestUnlikeLengths(t *testing.T) {
	text := compared(api.OpLess, side(textOf(1, "rate")), side(moneyText(0)))
	for _, a := range []asked{{text, nil, []int{0}}, {text, []string{"X"}, nil}, {text, []string{"X", "Y"}, []int{0}}, {text, []string{"X"}, []int{0, 1}}, {api.GuardText{}, []string{"X"}, []int{}}} {
		a.want(t, api.Guard{}, api.ErrCount)
	}
}

func TestOpsThatAreNone(t *testing.T) {
	for _, op := range []api.Op{0, -1, 7, 8, math.MinInt, math.MaxInt} {
		asked{text: compared(op, side(textOf(1, "rate")), side(moneyText(0)))}.want(t, api.Guard{}, api.ErrGuard)
	}
}

func TestSides(t *testing.T) {
	one := side(textOf(1, "rate"))
	for _, count := range []int{1, 2, 7, 8} {
		wantTerms(t, slices.Repeat(one, count), side(moneyText(3)), -3, times(int64(count), atom(rate)))
		wantTerms(t, side(moneyText(3)), slices.Repeat(one, count), 3, times(-int64(count), atom(rate)))
		wantTerms(t, slices.Repeat(side(moneyText(3)), count), one, api.Money(3*count), times(-1, atom(rate)))
	}
	for _, count := range []int{0, 9, 10, 16, 17, 1000} {
		wantNone(t, slices.Repeat(one, count), one, api.ErrGuard)
		wantNone(t, one, slices.Repeat(one, count), api.ErrGuard)
		wantNone(t, slices.Repeat(side(moneyText(1)), count), one, api.ErrGuard)
		wantNone(t, slices.Repeat(one, count), slices.Repeat(one, count), api.ErrGuard)
	}
	wantNone(t, nil, nil, api.ErrGuard)
}

// TestSixteenAtoms: both sides have as many as there may be.
func TestSixteenAtoms(t *testing.T) {
	numbers := make([]int, 8)
	names := []string{"A", "B", "C", "D", "E", "F", "G", "H"}
	var left, right []api.TermText
	var first, second []api.Term
	for n, name := range names {
		numbers[n] = n * n
		left, right = append(left, textOf(int64(n+1), "rent", name)), append(right, textOf(int64(n-100), "income", name))
		first, second = append(first, times(int64(100-n), atom(income, n*n))), append(second, times(int64(n+1), atom(rent, n*n)))
	}
	slices.Reverse(left)
	a := asked{compared(api.OpMore, left, right), names, numbers}
	a.want(t, guard(api.OpMore, 0, slices.Concat(first, second)...), api.OK)
}

func TestMoney(t *testing.T) {
	one := side(textOf(1, "rate"))
	for _, m := range []api.Money{0, 1, -1, money.Most - 1, money.Most, -money.Most} {
		wantTerms(t, side(moneyText(m)), one, m, times(-1, atom(rate)))
		wantTerms(t, one, side(moneyText(m)), -m, times(1, atom(rate)))
	}
	for _, m := range []api.Money{money.Most + 1, -money.Most - 1, math.MaxInt64, math.MinInt64} {
		wantNone(t, side(moneyText(m)), one, api.ErrOver)
		wantNone(t, one, side(moneyText(m)), api.ErrOver)
		wantNone(t, side(moneyText(m), moneyText(-m)), one, api.ErrOver)
	}
	// Of a money's term nothing else is asked; nor of a predicate's its Value.
	odd := api.TermText{Coef: math.MaxInt64, Args: []string{"none", "a", "b", "c", "d"}, Value: 5}
	wantTerms(t, side(odd), one, 5, times(-1, atom(rate)))
	worthy := textOf(1, "rate")
	worthy.Value = math.MaxInt64
	wantTerms(t, side(worthy), side(moneyText(2)), -2, times(1, atom(rate)))
}

func TestCoefs(t *testing.T) {
	zero := side(moneyText(0))
	for _, coef := range []int64{1, -1, 2, 999, 1000, -1000} {
		wantTerms(t, side(textOf(coef, "rate")), zero, 0, times(coef, atom(rate)))
		wantTerms(t, zero, side(textOf(coef, "rate")), 0, times(-coef, atom(rate)))
	}
	for _, coef := range []int64{0, 1001, -1001, math.MaxInt64, math.MinInt64} {
		wantNone(t, side(textOf(coef, "rate")), zero, api.ErrGuard)
		wantNone(t, zero, side(textOf(1, "rate"), textOf(coef, "rate")), api.ErrGuard)
	}
}

func TestPredsAndArgs(t *testing.T) {
	zero := side(moneyText(0))
	for _, pred := range []string{"none", "Income", "incom", "income ", "ann", "X", " "} {
		wantNone(t, side(textOf(1, pred, "X")), zero, api.ErrName)
		wantNone(t, zero, side(textOf(1, pred)), api.ErrName)
	}
	four := []string{"X", "X", "Y", "ann"}
	wantTerms(t, side(textOf(1, "rate", four...)), zero, 0, times(1, atom(rate, ben, ben, cem, ann)))
	for _, more := range [][]string{{"X"}, {"X", "X"}, {"none"}, {"", "", "", ""}} {
		wantNone(t, side(textOf(1, "distance", append(slices.Clone(four), more...)...)), zero, api.ErrArity)
		wantNone(t, zero, side(textOf(1, "rate", append(slices.Clone(four), more...)...)), api.ErrArity)
	}
	for place := range four {
		args := slices.Clone(four)
		args[place] = "none"
		wantNone(t, side(textOf(1, "distance", args...)), zero, api.ErrName)
	}
}

// fault is something done to what Of is asked with, and the error that it then has.
type fault struct {
	errno api.Errno
	spoil func(a *asked)
}

// faults: in the chapter's order.
func faults() []fault {
	long := slices.Repeat(side(moneyText(1)), 9)
	return []fault{
		{api.ErrCount, func(a *asked) { a.names = append(a.names, "Z") }},
		{api.ErrGuard, func(a *asked) { a.text.Op = 0 }},
		{api.ErrGuard, func(a *asked) { a.text.Left = append(a.text.Left, long...) }},
		{api.ErrGuard, func(a *asked) { a.text.Right = append(a.text.Right, long...) }},
		{api.ErrOver, func(a *asked) { a.text.Left[0].Value = money.Most + 1 }},
		{api.ErrName, func(a *asked) { a.text.Left[1].Pred = "none" }},
		{api.ErrGuard, func(a *asked) { a.text.Left[1].Coef = 0 }},
		{api.ErrArity, func(a *asked) { a.text.Left[1].Args = append(a.text.Left[1].Args, "none", "none") }},
		{api.ErrArg, func(a *asked) { a.members[0] = -1 }},
		{api.ErrName, func(a *asked) { a.text.Left[1].Args[1] = "none" }},
		{api.ErrArg, func(a *asked) { a.members[1] = -1 }},
		{api.ErrName, func(a *asked) { a.text.Right[0].Pred = "none" }},
		{api.ErrGuard, func(a *asked) { a.text.Right[0].Coef = -1001 }},
		{api.ErrArity, func(a *asked) { a.text.Right[0].Args = append(a.text.Right[0].Args, "none", "none", "none") }},
		{api.ErrName, func(a *asked) { a.text.Right[0].Args[0] = "none" }},
		{api.ErrArg, func(a *asked) { a.members[2] = -1 }},
		{api.ErrOver, func(a *asked) { a.text.Right[1].Value = -money.Most - 1 }},
		{api.ErrName, func(a *asked) { a.text.Right[2].Pred = "none" }},
		{api.ErrGuard, func(a *asked) { a.text.Right[2].Coef = 1001 }},
	}
}

func right() asked {
	return asked{
		compared(api.OpLeast, side(moneyText(5), textOf(2, "shared", "X", "ann", "Y")), side(textOf(3, "shared", "ben", "Z"), moneyText(2), textOf(1, "rate"))),
		[]string{"X", "Y", "Z"},
		[]int{2, 3, 4},
	}
}

func TestFaultsOfOf(t *testing.T) {
	right().want(t, guard(api.OpLeast, 3, times(-3, atom(shared, ben, 4)), times(2, atom(shared, 2, ann, 3)), times(-1, atom(rate))), api.OK)
	for n, first := range faults() {
		a := right()
		first.spoil(&a)
		a.want(t, api.Guard{}, first.errno)
		for _, second := range faults()[n+1:] {
			for _, order := range [][]fault{{first, second}, {second, first}} {
				a := right()
				order[0].spoil(&a)
				order[1].spoil(&a)
				a.want(t, api.Guard{}, first.errno)
			}
		}
	}
}
