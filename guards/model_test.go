package guards_test

import (
	"fmt"
	"math/big"
	"regexp"
	"slices"
	"strings"

	"lexprior/api"
)

// The model says the chapter's words in another way than the program: a guard is a row of numbers, of a text all faults are found, sums are of any size, and a guard's text is made by writing each term alike and mending what stands between them.

func rowOf(a api.Atom) []int {
	numbers := []int{a.Pred}
	for _, arg := range a.Args {
		numbers = append(numbers, 1, arg)
	}
	return append(numbers, 0, int(a.Value))
}

// row: the order of guards is that of their rows, number by number; a 1 stands ahead of each term, a 0 behind them all, so that fewer are lower.
func row(g api.Guard) []int {
	var numbers []int
	for _, term := range g.Terms {
		numbers = append(numbers, 1)
		numbers = append(numbers, rowOf(term.Atom)...)
		numbers = append(numbers, int(term.Coef))
	}
	return append(numbers, 0, int(g.Const), int(g.Op))
}

func compareRows(a, b []int) int {
	for n := range a {
		if a[n] < b[n] {
			return -1
		}
		if a[n] > b[n] {
			return 1
		}
	}
	return 0
}

func compareAtomRows(a, b api.Atom) int {
	return compareRows(rowOf(a), rowOf(b))
}

func isFrom(least, number, most int64) bool {
	return least <= number && number <= most
}

func modelAtomMay(a api.Atom) bool {
	return a.Pred >= 0 && a.Value == 0 && len(a.Args) < 5 && (len(a.Args) == 0 || slices.Min(a.Args) >= 0)
}

func modelMay(g api.Guard) bool {
	var atoms []api.Atom
	for _, term := range g.Terms {
		if term.Coef == 0 || !isFrom(-16000, term.Coef, 16000) || !modelAtomMay(term.Atom) {
			return false
		}
		atoms = append(atoms, term.Atom)
	}
	once := slices.CompactFunc(slices.SortedFunc(slices.Values(atoms), compareAtomRows), alikeAtoms)
	return isFrom(1, int64(g.Op), 6) && len(g.Terms) < 17 && slices.EqualFunc(atoms, once, alikeAtoms) && isFrom(-16e15, int64(g.Const), 16e15)
}

// modelArgument: an argument's number, or the fault that it has.
func (a asked) modelArgument(s api.Statute, name string) (int, []api.Errno) {
	for n, other := range a.names {
		if other == name && n < len(a.members) {
			if a.members[n] < 0 {
				return 0, []api.Errno{api.ErrArg}
			}
			return a.members[n], nil
		}
	}
	for n, member := range s.Members {
		if member.Name == name {
			return n, nil
		}
	}
	return 0, []api.Errno{api.ErrName}
}

// modelAtom: a term's atom, and all its faults.
func (a asked) modelAtom(s api.Statute, t api.TermText) (api.Atom, []api.Errno) {
	var faults []api.Errno
	one := api.Atom{Pred: slices.IndexFunc(s.Preds, func(p api.PredText) bool { return p.Name == t.Pred })}
	if one.Pred < 0 {
		faults = append(faults, api.ErrName)
	}
	if t.Coef == 0 || !isFrom(-1000, t.Coef, 1000) {
		faults = append(faults, api.ErrGuard)
	}
	if len(t.Args) > 4 {
		faults = append(faults, api.ErrArity)
	}
	for _, name := range t.Args {
		number, wrong := a.modelArgument(s, name)
		one.Args = append(one.Args, number)
		faults = append(faults, wrong...)
	}
	return one, faults
}

// modelOf: each atom's Coefs are gathered under its text.
func (a asked) modelOf(s api.Statute) (api.Guard, api.Errno) {
	var faults []api.Errno
	if len(a.names) != len(a.members) {
		faults = append(faults, api.ErrCount)
	}
	if !isFrom(1, int64(a.text.Op), 6) || !isFrom(1, int64(len(a.text.Left)), 8) || !isFrom(1, int64(len(a.text.Right)), 8) {
		faults = append(faults, api.ErrGuard)
	}
	g := api.Guard{Op: a.text.Op}
	coefs, atoms := map[string]int64{}, map[string]api.Atom{}
	for n, t := range slices.Concat(a.text.Left, a.text.Right) {
		sign := int64(1)
		if n >= len(a.text.Left) {
			sign = -1
		}
		if t.Pred == "" {
			if !isFrom(-1e15, int64(t.Value), 1e15) {
				faults = append(faults, api.ErrOver)
			}
			g.Const += api.Money(sign) * t.Value
			continue
		}
		one, wrong := a.modelAtom(s, t)
		faults = append(faults, wrong...)
		key := fmt.Sprint(one)
		coefs[key] += sign * t.Coef
		atoms[key] = one
	}
	if len(faults) > 0 {
		return api.Guard{}, faults[0]
	}
	for key, coef := range coefs {
		if coef != 0 {
			g.Terms = append(g.Terms, times(coef, atoms[key]))
		}
	}
	slices.SortFunc(g.Terms, func(a, b api.Term) int { return compareAtomRows(a.Atom, b.Atom) })
	return g, api.OK
}

func modelMoney(m api.Money) string {
	sign := ""
	if m < 0 {
		sign, m = "-", -m
	}
	return sign + strings.TrimSuffix(fmt.Sprintf("%d.%02d", m/100, m%100), ".00")
}

var (
	oneTimes = regexp.MustCompile(`(^| )1\*`)
	ops      = []string{"", "<", "<=", "==", "<>", ">=", ">"}
)

// modelPrint: of a statute whose names are of letters alone.
func modelPrint(s api.Statute, g api.Guard) (string, api.Errno) {
	if !modelMay(g) {
		return "", api.ErrGuard
	}
	var terms []string
	for _, term := range g.Terms {
		if term.Atom.Pred >= len(s.Preds) {
			return "", api.ErrName
		}
		var args []string
		for _, arg := range term.Atom.Args {
			if arg >= len(s.Members) {
				return "", api.ErrName
			}
			args = append(args, s.Members[arg].Name)
		}
		terms = append(terms, strings.TrimSuffix(fmt.Sprintf("%d*%s(%s)", term.Coef, s.Preds[term.Atom.Pred].Name, strings.Join(args, ", ")), "()"))
	}
	sum := strings.ReplaceAll(strings.Join(terms, " + "), " + -", " - ")
	sum = oneTimes.ReplaceAllString(sum, "$1")
	if sum == "" {
		sum = "0"
	}
	return "{" + sum + " " + ops[g.Op] + " " + modelMoney(-g.Const) + "}", api.OK
}

func bigOf(number int64) *big.Int {
	return big.NewInt(number)
}

// modelNumber: nil, if the atom has none.
func modelNumber(l []api.Number, a api.Atom) *big.Int {
	for _, one := range l {
		if alikeAtoms(one.Atom, a) {
			return bigOf(int64(one.Value))
		}
	}
	return nil
}

func modelTruth(g api.Guard, l []api.Number) (bool, bool) {
	if !modelMay(g) {
		return false, false
	}
	sum := bigOf(int64(g.Const))
	for _, term := range g.Terms {
		value := modelNumber(l, term.Atom)
		if value == nil {
			return false, false
		}
		sum.Add(sum, value.Mul(value, bigOf(term.Coef)))
	}
	return true, signHolds(g.Op, sum.Sign())
}

// modelNumbers: all faults, of which the first counts.
func modelNumbers(l []api.Number) api.Errno {
	faults := []api.Errno{}
	for n, one := range l {
		if !modelAtomMay(one.Atom) {
			faults = append(faults, api.ErrGuard)
		}
		if !isFrom(-1e15, int64(one.Value), 1e15) {
			faults = append(faults, api.ErrOver)
		}
		if n > 0 && compareAtomRows(l[n-1].Atom, one.Atom) != -1 {
			faults = append(faults, api.ErrOrder)
		}
	}
	return append(faults, api.OK)[0]
}
