package derive_test

import (
	"math"
	"reflect"
	"runtime"
	"slices"
	"sync"
	"testing"

	"lexprior/api"
	"lexprior/derive"
)

// Given is what calls are asked with.
type Given struct {
	Theory api.Theory
	Facts  []int
	Steps  []api.Step
}

// Answers is what all calls say of it.
type Answers struct {
	Lists [][]api.Step
	Pairs [][]api.Pair
	Many  []int
	Is    []bool
	Said  []api.Errno
}

// ask: of each literal, and one more; of each tag, and one more; of each step.
func (g Given) ask() Answers {
	var a Answers
	list := func(l []api.Step, errno api.Errno) {
		a.Lists, a.Said = append(a.Lists, l), append(a.Said, errno)
	}
	list(derive.All(g.Theory, g.Facts))
	list(derive.Lean(g.Theory, g.Facts, g.Steps))
	for lit := range len(g.Theory.Foes) + 1 {
		for _, tag := range append(tags, 5) {
			list(derive.Derive(g.Theory, g.Facts, lit, tag))
		}
	}
	errno, many := derive.Check(g.Theory, g.Facts, g.Steps)
	a.Many, a.Said = append(a.Many, many), append(a.Said, errno)
	for _, s := range g.Steps {
		needs, errno := derive.Needs(g.Theory, s)
		a.Pairs, a.Said = append(a.Pairs, needs), append(a.Said, errno)
		follows, errno := derive.Follows(g.Theory, g.Facts, g.Steps, s)
		a.Is, a.Said = append(a.Is, follows, derive.Same(s, g.Steps[0])), append(a.Said, errno)
	}
	return a
}

// given: a theory, facts and a derivation, now and then spoilt.
func (m *maker) given() Given {
	x := pick(m, m.theory, m.row)(pick(m, 3, 6, 9), pick(m, 4, 12))
	g := Given{Theory: x, Facts: m.some(6, x.Lits)}
	g.Steps = m.derivation(x, g.Facts, pick(m, 40, 80))
	switch m.chance.Intn(12) {
	case 0:
		m.spoil(&g.Theory)
	case 1:
		g.Facts = m.change(g.Facts, x.Lits)
	case 2:
		if n := len(g.Steps); n > 0 {
			at := m.chance.Intn(n)
			g.Steps[at] = m.spoilStep(x, g.Steps[at])
		}
	}
	return roomy(g)
}

// relist says of a list which elements a copy of it has in its memory, and how many it shows.
type relist func(list reflect.Value) (reflect.Value, int)

func rebuilt(v reflect.Value, lists relist) reflect.Value {
	other := reflect.New(v.Type()).Elem()
	switch v.Kind() {
	case reflect.Struct:
		for i := range v.NumField() {
			other.Field(i).Set(rebuilt(v.Field(i), lists))
		}
	case reflect.Slice:
		elements, length := lists(v)
		if elements.IsNil() {
			break
		}
		list := reflect.MakeSlice(v.Type(), elements.Len(), elements.Len())
		for i := range elements.Len() {
			list.Index(i).Set(rebuilt(elements.Index(i), lists))
		}
		other.Set(list.Slice(0, length))
	default:
		other.Set(v)
	}
	return other
}

// exact: a copy whose lists have what they show; those of nothing are nil.
func exact[T any](thing T) T {
	return rebuilt(reflect.ValueOf(thing), func(list reflect.Value) (reflect.Value, int) {
		if list.Len() == 0 {
			return reflect.Zero(list.Type()), 0
		}
		return list, list.Len()
	}).Interface().(T)
}

// roomy: a copy whose lists have room behind their end, which is filled with the same things again; none is nil.
func roomy[T any](thing T) T {
	return rebuilt(reflect.ValueOf(thing), func(list reflect.Value) (reflect.Value, int) {
		twice := reflect.MakeSlice(list.Type(), 0, 0)
		return reflect.AppendSlice(reflect.AppendSlice(twice, list), list), list.Len()
	}).Interface().(T)
}

// whole: a copy whose lists show all that is in their memory.
func whole[T any](thing T) T {
	return rebuilt(reflect.ValueOf(thing), func(list reflect.Value) (reflect.Value, int) {
		return list.Slice(0, list.Cap()), list.Cap()
	}).Interface().(T)
}

// same: whether two differ in nothing but that a list is nil or empty.
func same[T any](a, b T) bool {
	return reflect.DeepEqual(exact(a), exact(b))
}

// spoilAll: every number in the lists of a value becomes another, up to the end of their memory.
func spoilAll(v reflect.Value) {
	switch v.Kind() {
	case reflect.Struct:
		for i := range v.NumField() {
			spoilAll(v.Field(i))
		}
	case reflect.Slice:
		list := v.Slice(0, v.Cap())
		for i := range list.Len() {
			spoilAll(list.Index(i))
		}
	case reflect.Int:
		v.SetInt(-7)
	case reflect.Bool:
		v.SetBool(!v.Bool())
	}
}

// TestArgumentsStay: as they were handed in, and what stands behind their lists' ends, too.
func TestArgumentsStay(t *testing.T) {
	t.Parallel()
	m := newMaker(221)
	for range 300 {
		g := m.given()
		was := whole(g)
		g.ask()
		if now := whole(g); !reflect.DeepEqual(now, was) {
			t.Fatalf("P20.9: %+v became %+v", was, now)
		}
	}
}

// TestAnswersThatAreChanged: by their caller; what was handed in stays, and is answered the same anew; so do other answers.
func TestAnswersThatAreChanged(t *testing.T) {
	t.Parallel()
	m := newMaker(222)
	for range 300 {
		g := m.given()
		was, want, other := whole(g), exact(g.ask()), g.ask()
		changed := g.ask()
		spoilAll(reflect.ValueOf(&changed).Elem())
		if got := g.ask(); !same(got, want) || !same(other, want) {
			t.Fatalf("P20.9: of %+v: %+v and %+v, was %+v", g, got, other, want)
		}
		if now := whole(g); !reflect.DeepEqual(now, was) {
			t.Fatalf("P20.9: %+v became %+v", was, now)
		}
	}
}

// TestAnswersStay: when what was handed in becomes something else.
func TestAnswersStay(t *testing.T) {
	t.Parallel()
	m := newMaker(223)
	for range 300 {
		g := m.given()
		got := g.ask()
		want := exact(got)
		spoilAll(reflect.ValueOf(&g).Elem())
		if !same(got, want) {
			t.Fatalf("P20.9: the answers became %+v, were %+v", got, want)
		}
	}
}

// stretch is a piece of memory.
type stretch struct{ from, to uintptr }

// memory: of a value all lists, up to their capacity.
func memory(v reflect.Value) []stretch {
	var all []stretch
	switch v.Kind() {
	case reflect.Struct:
		for i := range v.NumField() {
			all = append(all, memory(v.Field(i))...)
		}
	case reflect.Slice:
		if v.Cap() > 0 {
			all = append(all, stretch{v.Pointer(), v.Pointer() + uintptr(v.Cap())*v.Type().Elem().Size()})
		}
		list := v.Slice(0, v.Cap())
		for i := range list.Len() {
			all = append(all, memory(list.Index(i))...)
		}
	}
	return all
}

// wantApart: no two of the pieces share anything, nor does one with what was handed in, of which pieces may.
func wantApart(t testing.TB, g Given, answered []stretch) {
	t.Helper()
	const handedIn = true
	type piece struct {
		stretch
		handedIn bool
	}
	var all []piece
	for _, a := range answered {
		all = append(all, piece{a, !handedIn})
	}
	for _, a := range memory(reflect.ValueOf(g)) {
		all = append(all, piece{a, handedIn})
	}
	slices.SortFunc(all, func(a, b piece) int {
		switch {
		case a.from < b.from:
			return -1
		case a.from > b.from:
			return 1
		}
		return 0
	})
	for n := 1; n < len(all); n++ {
		if a, b := all[n-1], all[n]; b.from < a.to && !(a.handedIn && b.handedIn) {
			t.Fatalf("P20.9: of %s two lists share memory: %v, %v", told(g), a, b)
		}
	}
}

// TestAnswersShareNothing: with what was handed in, nor with each other, behind the ends of their lists neither.
func TestAnswersShareNothing(t *testing.T) {
	t.Parallel()
	m := newMaker(224)
	seen := 0
	for range 400 {
		g := m.given()
		first, second := g.ask(), g.ask()
		answered := slices.Concat(memory(reflect.ValueOf(first)), memory(reflect.ValueOf(second)))
		seen += len(answered)
		wantApart(t, g, answered)
		runtime.KeepAlive([]any{g, first, second})
	}
	if seen < 10000 {
		t.Errorf("only %d pieces of memory were seen", seen)
	}
}

// TestSharedChoices: steps that are handed in with one list of choices are answered with lists of their own; so is a lean list, of which nothing goes.
func TestSharedChoices(t *testing.T) {
	x := from("4; 0 => 1; 1 => 2; 2 => 3")
	one := []api.Choice{{Place: 0, Rule: -1}, {Place: 7, Rule: 7}}[:1]
	g := Given{Theory: x, Steps: steps("-D 0 none; -D 1 none; -D 2 none; -D 3 none; -d 0 none; -d 1 none; -d 2 none; -d 3 none")}
	for n := 5; n < 8; n++ {
		g.Steps[n].Choices = one
	}
	l, errno := derive.Lean(x, nil, g.Steps)
	if errno != api.OK || !sameSteps(l, g.Steps) {
		t.Fatalf("P20.8: Lean: %+v, %d, of %+v", l, errno, g.Steps)
	}
	wantApart(t, g, memory(reflect.ValueOf(l)))
	l[5].Choices[0].Place = 3
	if one[0].Place != 0 || l[6].Choices[0].Place != 0 {
		t.Errorf("P20.9: %+v, %+v", one, l)
	}
}

// TestSameAnswers: the same arguments have the same answers, alone and beside other calls; nil lists and empty ones are one.
func TestSameAnswers(t *testing.T) {
	t.Parallel()
	m := newMaker(225)
	var all []Given
	var wanted []Answers
	for range 100 {
		g := m.given()
		all, wanted = append(all, g), append(wanted, g.ask())
		if other := exact(g); !same(other.ask(), g.ask()) {
			t.Fatalf("P1: of %+v, with nil lists for empty ones: %+v, was %+v", g, other.ask(), g.ask())
		}
	}
	var workers sync.WaitGroup
	for range 4 {
		workers.Go(func() {
			for n, g := range all {
				if got := g.ask(); !same(got, wanted[n]) {
					t.Errorf("P3: of %+v another answer: %+v, then %+v", g, wanted[n], got)
				}
			}
		})
	}
	workers.Wait()
}

// oddSteps: with any numbers.
func oddSteps(odd []int) []api.Step {
	var l []api.Step
	for _, a := range odd {
		for _, b := range odd {
			l = append(l, api.Step{Tag: 1, Lit: a, How: 2, Rule: b}, api.Step{Tag: api.Tag(a), Lit: 0, How: api.How(b)},
				api.Step{Tag: 2, How: 3, Rule: -1, Choices: []api.Choice{{Place: a, Rule: b}}},
				api.Step{Tag: 3, How: 2, Rule: a, Choices: []api.Choice{{Place: -1, Rule: b}, {Place: b, Rule: -1}}},
				api.Step{Tag: 4, Lit: a, How: 4, Rule: b}, api.Step{Tag: 4, How: 5, Rule: a, Choices: []api.Choice{{Place: b, Rule: -1}}},
				api.Step{Tag: 4, How: 3, Rule: -1, Choices: []api.Choice{{Place: a, Rule: -1}, {Place: b, Rule: -1}}})
		}
	}
	return l
}

// TestAnyArguments: nothing panics, and beside an error there is nothing, whatever there is.
func TestAnyArguments(t *testing.T) {
	odd := []int{math.MinInt, -1, 0, 1, 2, 4097, math.MaxInt}
	lists := [][]int{nil, {0}, {1}, {1, 0}, {math.MaxInt, math.MinInt}, upTo(100)}
	said := oddSteps(odd)
	some := said[:0:0]
	for _, lits := range odd {
		for _, foes := range lists {
			for _, beats := range lists {
				for at, n := range odd {
					x := api.Theory{
						Lits: lits, Foes: [][]int{foes, beats}, Beats: [][]int{beats, foes},
						Rules: []api.Rule{{Kind: api.Arrow(n), Head: n, Body: foes}, {Kind: api.Strict, Head: n, Body: beats}},
					}
					some = append(some[:0], said[at], said[len(said)-1-at], api.Step{Tag: 2, Lit: n, How: 3, Rule: -1})
					wantNothing(t, Given{x, foes, some})
					x.Rules = x.Rules[:n&1]
					wantNothing(t, Given{x, beats, some})
				}
			}
		}
	}
	for _, x := range []api.Theory{
		{}, plain(2), town(), village(), from("1; 0 -> 0; 0 => 0"), from("2; => 0; 0 => 1; 0 # 1; 1 > 0"),
		{Lits: 4096}, {Rules: make([]api.Rule, 4096)}, {Beats: make([][]int, 4096)},
	} {
		for _, s := range said {
			wantNothing(t, Given{x, nil, []api.Step{s, s}})
		}
		wantNothing(t, Given{x, odd, said})
		wantNothing(t, Given{x, nil, said})
	}
}

// wantNothing: beside an error or a false.
func wantNothing(t testing.TB, g Given) {
	t.Helper()
	a := g.ask()
	for n, l := range a.Lists {
		if a.Said[n] != api.OK && len(l) > 0 {
			t.Errorf("P4: of %s: %s beside %d", told(g), told(l), a.Said[n])
		}
	}
	if errno := a.Said[len(a.Lists)]; errno != api.OK && errno != api.ErrStep && a.Many[0] != 0 {
		t.Errorf("P4: Check(%s): %d beside %d", told(g), a.Many[0], errno)
	}
	behind := a.Said[len(a.Lists)+1:]
	for n, list := range a.Pairs {
		if behind[2*n] != api.OK && len(list) > 0 {
			t.Errorf("P4: Needs of %s: %s beside %d", told(g), told(list), behind[2*n])
		}
		if behind[2*n+1] != api.OK && a.Is[2*n] {
			t.Errorf("P4: Follows of %s: true beside %d", told(g), behind[2*n+1])
		}
	}
}
