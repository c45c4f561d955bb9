package variants_test

import (
	"math"
	"reflect"
	"runtime"
	"slices"
	"sync"
	"testing"

	"lexprior/api"
	"lexprior/theory"
	"lexprior/variants"
)

// Given is what calls are asked with.
type Given struct {
	Theory api.Theory
	Facts  []int
}

// Answers is what both calls say of it.
type Answers struct {
	Marks [][]api.Marks
	Said  []api.Errno
}

func (g Given) ask() Answers {
	propagated, one := variants.Propagated(g.Theory, g.Facts)
	supported, other := variants.Supported(g.Theory, g.Facts)
	return Answers{[][]api.Marks{propagated, supported}, []api.Errno{one, other}}
}

// given: a theory and facts, now and then spoilt.
func (m *maker) given() Given {
	x := m.any()
	g := Given{Theory: x, Facts: m.some(9, x.Lits)}
	switch m.chance.Intn(12) {
	case 0:
		m.spoil(&g.Theory)
	case 1:
		g.Facts = m.change(g.Facts, x.Lits)
	}
	return roomy(g)
}

// relist says of a list which elements a copy of it has in its memory, and how many it shows.
type relist func(list reflect.Value) (reflect.Value, int)

func rebuilt(v reflect.Value, lists relist) reflect.Value {
	other := reflect.New(v.Type()).Elem()
	switch v.Kind() {
	case reflect.Struct:
		for i := range v.NumField() {
			other.Field(i).Set(rebuilt(v.Field(i), lists))
		}
	case reflect.Slice:
		elements, length := lists(v)
		if elements.IsNil() {
			break
		}
		list := reflect.MakeSlice(v.Type(), elements.Len(), elements.Len())
		for i := range elements.Len() {
			list.Index(i).Set(rebuilt(elements.Index(i), lists))
		}
		other.Set(list.Slice(0, length))
	default:
		other.Set(v)
	}
	return other
}

// exact: a copy whose lists have what they show; those of nothing are nil.
func exact[T any](thing T) T {
	return rebuilt(reflect.ValueOf(thing), func(list reflect.Value) (reflect.Value, int) {
		if list.Len() == 0 {
			return reflect.Zero(list.Type()), 0
		}
		return list, list.Len()
	}).Interface().(T)
}

// roomy: a copy whose lists have room behind their end, which is filled with the same things again; none is nil.
func roomy[T any](thing T) T {
	return rebuilt(reflect.ValueOf(thing), func(list reflect.Value) (reflect.Value, int) {
		twice := reflect.MakeSlice(list.Type(), 0, 0)
		return reflect.AppendSlice(reflect.AppendSlice(twice, list), list), list.Len()
	}).Interface().(T)
}

// whole: a copy whose lists show all that is in their memory.
func whole[T any](thing T) T {
	return rebuilt(reflect.ValueOf(thing), func(list reflect.Value) (reflect.Value, int) {
		return list.Slice(0, list.Cap()), list.Cap()
	}).Interface().(T)
}

// same: whether two differ in nothing but that a list is nil or empty.
func same[T any](a, b T) bool {
	return reflect.DeepEqual(exact(a), exact(b))
}

// spoilAll: every number in the lists of a value becomes another, up to the end of their memory.
func spoilAll(v reflect.Value) {
	switch v.Kind() {
	case reflect.Struct:
		for i := range v.NumField() {
			spoilAll(v.Field(i))
		}
	case reflect.Slice:
		list := v.Slice(0, v.Cap())
		for i := range list.Len() {
			spoilAll(list.Index(i))
		}
	case reflect.Int:
		v.SetInt(-7)
	case reflect.Uint8:
		v.SetUint(^v.Uint() & 0xFF)
	}
}

// TestArgumentsStay: as they were handed in, and what stands behind their lists' ends, too.
func TestArgumentsStay(t *testing.T) {
	t.Parallel()
	m := newMaker(171)
	for range 300 {
		g := m.given()
		was := whole(g)
		g.ask()
		if now := whole(g); !reflect.DeepEqual(now, was) {
			t.Fatalf("P17.5: %+v became %+v", was, now)
		}
	}
}

// TestAnswersThatAreChanged: by their caller; what was handed in stays, and is answered the same anew; so do other answers.
func TestAnswersThatAreChanged(t *testing.T) {
	t.Parallel()
	m := newMaker(172)
	for range 300 {
		g := m.given()
		was, want, other := whole(g), exact(g.ask()), g.ask()
		changed := g.ask()
		spoilAll(reflect.ValueOf(&changed).Elem())
		if got := g.ask(); !same(got, want) || !same(other, want) {
			t.Fatalf("P17.5: of %+v: %+v and %+v, was %+v", g, got, other, want)
		}
		if now := whole(g); !reflect.DeepEqual(now, was) {
			t.Fatalf("P17.5: %+v became %+v", was, now)
		}
	}
}

// TestAnswersStay: when what was handed in becomes something else.
func TestAnswersStay(t *testing.T) {
	t.Parallel()
	m := newMaker(173)
	for range 300 {
		g := m.given()
		got := g.ask()
		want := exact(got)
		spoilAll(reflect.ValueOf(&g).Elem())
		if !same(got, want) {
			t.Fatalf("P17.5: the answers became %+v, were %+v", got, want)
		}
	}
}

// stretch is a piece of memory.
type stretch struct{ from, to uintptr }

// memory: of a value all lists, up to their capacity.
func memory(v reflect.Value) []stretch {
	var all []stretch
	switch v.Kind() {
	case reflect.Struct:
		for i := range v.NumField() {
			all = append(all, memory(v.Field(i))...)
		}
	case reflect.Slice:
		if v.Cap() > 0 {
			all = append(all, stretch{v.Pointer(), v.Pointer() + uintptr(v.Cap())*v.Type().Elem().Size()})
		}
		list := v.Slice(0, v.Cap())
		for i := range list.Len() {
			all = append(all, memory(list.Index(i))...)
		}
	}
	return all
}

// TestAnswersShareNothing: with what was handed in, nor with each other, behind the ends of their lists neither.
func TestAnswersShareNothing(t *testing.T) {
	t.Parallel()
	m := newMaker(174)
	seen := 0
	for range 600 {
		g := m.given()
		first, second := g.ask(), g.ask()
		answered := append(memory(reflect.ValueOf(first.Marks)), memory(reflect.ValueOf(second.Marks))...)
		seen += len(answered)
		pieces := append(slices.Clone(answered), memory(reflect.ValueOf(g))...)
		for i, a := range answered {
			for _, b := range pieces[i+1:] {
				if a.from < b.to && b.from < a.to {
					t.Fatalf("P17.5: of %+v two lists share memory: %v, %v", g, a, b)
				}
			}
		}
		runtime.KeepAlive([]any{g, first, second})
	}
	if seen < 3000 {
		t.Errorf("only %d pieces of memory were seen", seen)
	}
}

// TestSameAnswers: the same arguments have the same answers, alone and beside other calls; nil lists and empty ones are one.
func TestSameAnswers(t *testing.T) {
	t.Parallel()
	m := newMaker(175)
	var all []Given
	var wanted []Answers
	for range 100 {
		g := m.given()
		all, wanted = append(all, g), append(wanted, g.ask())
		if other := exact(g); !same(other.ask(), g.ask()) {
			t.Fatalf("P1: of %+v, with nil lists for empty ones: %+v, was %+v", g, other.ask(), g.ask())
		}
	}
	var workers sync.WaitGroup
	for range 4 {
		workers.Go(func() {
			for n, g := range all {
				if got := g.ask(); !same(got, wanted[n]) {
					t.Errorf("P3: of %+v another answer: %+v, then %+v", g, wanted[n], got)
				}
			}
		})
	}
	workers.Wait()
}

// TestAnyArguments: nothing panics, and beside an error there is nothing, whatever there is.
func TestAnyArguments(t *testing.T) {
	odd := []int{math.MinInt, -1, 0, 1, 2, 4097, math.MaxInt}
	lists := [][]int{nil, {0}, {1}, {1, 0}, {math.MaxInt, math.MinInt}, odd, upTo(100)}
	for _, lits := range odd {
		for _, foes := range lists {
			for _, beats := range lists {
				for _, n := range odd {
					x := api.Theory{
						Lits: lits, Foes: [][]int{foes, beats}, Beats: [][]int{beats, foes},
						Rules: []api.Rule{{Kind: api.Arrow(n), Head: n, Body: foes}, {Kind: api.Strict, Head: n, Body: beats}},
					}
					wantNothing(t, Given{x, foes})
					x.Rules = x.Rules[:n&1]
					wantNothing(t, Given{x, beats})
				}
			}
		}
	}
	wantNothing(t, Given{})
	wantNothing(t, Given{Facts: odd})
	wantNothing(t, Given{Theory: plain(2)})
	wantNothing(t, Given{Theory: plain(2), Facts: odd})
	wantNothing(t, Given{Theory: api.Theory{Lits: 4096}})
	wantNothing(t, Given{Theory: api.Theory{Rules: make([]api.Rule, 4096)}})
	wantNothing(t, Given{Theory: api.Theory{Beats: make([][]int, 4096)}})
}

// wantNothing: beside the first error that there is; else marks of each literal.
func wantNothing(t testing.TB, g Given) {
	t.Helper()
	want, _ := theory.Check(g.Theory)
	if want == api.OK {
		want = theory.CheckFacts(g.Theory, g.Facts)
	}
	if want != api.OK {
		wantRefused(t, g.Theory, g.Facts, want)
		return
	}
	asked(t, g.Theory, g.Facts)
}
