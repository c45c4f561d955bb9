package literals_test

import (
	"slices"
	"testing"

	"lexprior/api"
	"lexprior/literals"
)

// The predicates of house, by their numbers.
const (
	old = iota
	help
	single
	married
	rains
	income
	lives
	grant
	settled
	aid
	age
	divorced
	alone
	dry
	wet
	last = wet
)

// house has predicates of all sorts; in class 0 there are such as have another number of kinds, or are not plain; in class 1 there is one alone; those of class 2 have no kinds.
func house() ([]api.PredText, []int, []api.Sort) {
	person, both := []string{"person"}, []string{"person", "flat"}
	preds := []api.PredText{
		old:      {Name: "old", Sort: api.SortPlain, Kinds: person},
		help:     {Name: "help", Sort: api.SortAmount, Kinds: person, Values: []api.Money{10, 20}},
		single:   {Name: "single", Sort: api.SortPlain, Kinds: person},
		married:  {Name: "married", Sort: api.SortPlain, Kinds: person},
		rains:    {Name: "rains", Sort: api.SortPlain},
		income:   {Name: "income", Sort: api.SortNumber, Kinds: person},
		lives:    {Name: "lives", Sort: api.SortPlain, Kinds: both},
		grant:    {Name: "grant", Sort: api.SortAmount, Values: []api.Money{7, 5, 0, 5, -3}},
		settled:  {Name: "settled", Sort: api.SortPlain, Kinds: both},
		aid:      {Name: "aid", Sort: api.SortAmount, Kinds: person, Values: []api.Money{0, 30}},
		age:      {Name: "age", Sort: api.SortNumber, Kinds: person},
		divorced: {Name: "divorced", Sort: api.SortPlain, Kinds: person},
		alone:    {Name: "alone", Sort: api.SortPlain, Kinds: person},
		dry:      {Name: "dry", Sort: api.SortPlain},
		wet:      {Name: "wet", Sort: api.SortPlain},
	}
	class := []int{old: -1, help: -1, single: 0, married: 0, rains: -1, income: -1, lives: -1, grant: -1, settled: 0, aid: 0, age: 0, divorced: 0, alone: 1, dry: 2, wet: 2}
	return preds, class, sortsOf(preds)
}

func sortsOf(preds []api.PredText) []api.Sort {
	var sorts []api.Sort
	for _, p := range preds {
		sorts = append(sorts, p.Sort)
	}
	return sorts
}

func lit(pred int, args ...int) api.Lit {
	return api.Lit{Atom: api.Atom{Pred: pred, Args: args}}
}

func not(l api.Lit) api.Lit {
	l.Neg = true
	return l
}

func worth(l api.Lit, value api.Money) api.Lit {
	l.Atom.Value = value
	return l
}

// guarded: a literal that has a guard's number beside what it has.
func guarded(l api.Lit, guard int) api.Lit {
	l.Guard = guard
	return l
}

func guard(number int) api.Lit {
	return api.Lit{Guard: number}
}

// alike: whether two literals have the same in each field; Args that are nil and those that are empty are one.
func alike(a, b api.Lit) bool {
	return a.Neg == b.Neg && a.Atom.Pred == b.Atom.Pred && slices.Equal(a.Atom.Args, b.Atom.Args) && a.Atom.Value == b.Atom.Value && a.Guard == b.Guard
}

func wantCompare(t testing.TB, a, b api.Lit, want int) {
	t.Helper()
	if got := literals.Compare(a, b); got != want {
		t.Errorf("P9.1: Compare(%+v, %+v): %d, want %d", a, b, got, want)
	}
}

func wantCheck(t testing.TB, preds []api.PredText, members int, l api.Lit, errno api.Errno) {
	t.Helper()
	if got := literals.Check(preds, members, l); got != errno {
		t.Errorf("P9.1: Check(%+v, %d, %+v): %d, want %d", preds, members, l, got, errno)
	}
}

func wantComplement(t testing.TB, l, want api.Lit, errno api.Errno) {
	t.Helper()
	if got, gotErrno := literals.Complement(l); !alike(got, want) || gotErrno != errno {
		t.Errorf("P9.1: Complement(%+v): %+v, %d, want %+v, %d", l, got, gotErrno, want, errno)
	}
}

// wantConflict: of the two, whichever is ahead.
func wantConflict(t testing.TB, class []int, sorts []api.Sort, a, b api.Lit, want bool) {
	t.Helper()
	if got, turned := literals.Conflict(class, sorts, a, b), literals.Conflict(class, sorts, b, a); got != want || turned != want {
		t.Errorf("P9.2: Conflict(%d, %d, %+v, %+v): %t, the other way round %t, want %t", class, sorts, a, b, got, turned, want)
	}
}

func wantMates(t testing.TB, preds []api.PredText, class []int, l api.Lit, want []api.Lit, errno api.Errno) {
	t.Helper()
	if got, gotErrno := literals.Mates(preds, class, l); !slices.EqualFunc(got, want, alike) || gotErrno != errno {
		t.Errorf("P9.3: Mates(%+v, %d, %+v): %+v, %d, want %+v, %d", preds, class, l, got, gotErrno, want, errno)
	}
}

func wantClose(t testing.TB, preds []api.PredText, class []int, l []api.Lit, want []api.Lit, errno api.Errno) {
	t.Helper()
	if got, gotErrno := literals.Close(preds, class, l); !slices.EqualFunc(got, want, alike) || gotErrno != errno {
		t.Errorf("P9.4: Close(%.1000v, %.1000v, %.1000v): %d literals %.1000v, %d, want %d literals %.1000v, %d", preds, class, l, len(got), got, gotErrno, len(want), want, errno)
	}
}

func wantFoes(t testing.TB, class []int, sorts []api.Sort, l []api.Lit, want [][]int, errno api.Errno) {
	t.Helper()
	if got, gotErrno := literals.Foes(class, sorts, l); !slices.EqualFunc(got, want, slices.Equal) || gotErrno != errno {
		t.Errorf("P9.4: Foes(%.1000v, %.1000v, %.1000v): %.1000v, %d, want %.1000v, %d", class, sorts, l, got, gotErrno, want, errno)
	}
}

func wantFind(t testing.TB, l []api.Lit, x api.Lit, want int, there bool) {
	t.Helper()
	if got, gotThere := literals.Find(l, x); got != want || gotThere != there {
		t.Errorf("P9.4: Find(%.1000v, %+v): %d, %t, want %d, %t", l, x, got, gotThere, want, there)
	}
}
