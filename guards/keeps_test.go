package guards_test

import (
	"math"
	"reflect"
	"runtime"
	"slices"
	"strings"
	"sync"
	"testing"
	"unsafe"

	"lexprior/api"
	"lexprior/guards"
)

// Given is what calls are asked with.
type Given struct {
	Statute api.Statute
	Text    api.GuardText
	Names   []string
	Members []int
	Guards  []api.Guard
	Numbers []api.Number
}

// Answers is what all calls say of it.
type Answers struct {
	Guards []api.Guard
	Texts  []string
	Atoms  []api.Atom
	Said   []int
}

func oneIf(holds bool) int {
	if holds {
		return 1
	}
	return 0
}

func (g Given) ask() Answers {
	var a Answers
	made, errno := guards.Of(g.Statute, g.Text, g.Names, g.Members)
	a.Guards, a.Said = append(a.Guards, made), append(a.Said, int(errno), int(guards.CheckNumbers(g.Numbers)))
	a.Atoms = guards.Atoms(g.Guards)
	for n, one := range g.Guards {
		opposite, first := guards.Opposite(one)
		text, second := guards.Print(g.Statute, one)
		a.Guards, a.Texts = append(a.Guards, opposite), append(a.Texts, text)
		known, holds := guards.Truth(one, g.Numbers)
		a.Said = append(a.Said, int(first), int(second), int(guards.Check(one)), guards.Compare(one, g.Guards[n/2]), oneIf(known), oneIf(holds))
		for _, term := range one.Terms {
			a.Said = append(a.Said, guards.CompareAtoms(term.Atom, g.Guards[n/2].Terms[0].Atom))
		}
	}
	return a
}

func (m *maker) given() Given {
	a := m.asked()
	if m.oneIn(4) {
		m.spoil(&a)
	}
	all := some(m, 1, 4, m.any)
	for n := range all {
		if len(all[n].Terms) == 0 {
			all[n] = guard(api.OpLess, 5, times(1, atom(income, ann)))
		}
	}
	return roomy(Given{house(), a.text, a.names, a.members, all, m.numbers()})
}

// relist says of a list which elements a copy of it has in its memory, and how many it shows.
type relist func(list reflect.Value) (reflect.Value, int)

func rebuilt(v reflect.Value, lists relist) reflect.Value {
	other := reflect.New(v.Type()).Elem()
	switch v.Kind() {
	case reflect.Struct:
		for i := range v.NumField() {
			other.Field(i).Set(rebuilt(v.Field(i), lists))
		}
	case reflect.Slice:
		elements, length := lists(v)
		if elements.IsNil() {
			break
		}
		list := reflect.MakeSlice(v.Type(), elements.Len(), elements.Len())
		for i := range elements.Len() {
			list.Index(i).Set(rebuilt(elements.Index(i), lists))
		}
		other.Set(list.Slice(0, length))
	case reflect.String:
		other.SetString(strings.Clone(v.String()))
	default:
		other.Set(v)
	}
	return other
}

// exact: a copy whose lists have what they show; those of nothing are nil.
func exact[T any](thing T) T {
	return rebuilt(reflect.ValueOf(thing), func(list reflect.Value) (reflect.Value, int) {
		if list.Len() == 0 {
			return reflect.Zero(list.Type()), 0
		}
		return list, list.Len()
	}).Interface().(T)
}

// roomy: a copy whose lists have room behind their end, which is filled with the same things again; none is nil.
func roomy[T any](thing T) T {
	return rebuilt(reflect.ValueOf(thing), func(list reflect.Value) (reflect.Value, int) {
		twice := reflect.MakeSlice(list.Type(), 0, 0)
		return reflect.AppendSlice(reflect.AppendSlice(twice, list), list), list.Len()
	}).Interface().(T)
}

// whole: a copy whose lists show all that is in their memory.
func whole[T any](thing T) T {
	return rebuilt(reflect.ValueOf(thing), func(list reflect.Value) (reflect.Value, int) {
		return list.Slice(0, list.Cap()), list.Cap()
	}).Interface().(T)
}

// same: whether two differ in nothing but that a list is nil or empty.
func same[T any](a, b T) bool {
	return reflect.DeepEqual(exact(a), exact(b))
}

// spoilAll: every number and text in the lists of a value becomes another, up to the end of their memory.
func spoilAll(v reflect.Value) {
	switch v.Kind() {
	case reflect.Struct:
		for i := range v.NumField() {
			spoilAll(v.Field(i))
		}
	case reflect.Slice:
		list := v.Slice(0, v.Cap())
		for i := range list.Len() {
			spoilAll(list.Index(i))
		}
	case reflect.String:
		text := v.String()
		for i := range unsafe.Slice(unsafe.StringData(text), len(text)) {
			unsafe.Slice(unsafe.StringData(text), len(text))[i] = '?'
		}
	case reflect.Int, reflect.Int64:
		v.SetInt(-7)
	}
}

// TestArgumentsStay: as they were handed in, and what stands behind their lists' ends, too.
func TestArgumentsStay(t *testing.T) {
	m := newMaker(111)
	for range 2000 {
		g := m.given()
		was := whole(g)
		g.ask()
		if now := whole(g); !reflect.DeepEqual(now, was) {
			t.Fatalf("P10.10: %+v became %+v", was, now)
		}
	}
}

// TestAnswersThatAreChanged: by their caller; what was handed in stays, and is answered the same anew; so do other answers.
func TestAnswersThatAreChanged(t *testing.T) {
	m := newMaker(112)
	for range 2000 {
		g := m.given()
		was, want, other := whole(g), exact(g.ask()), g.ask()
		changed := g.ask()
		spoilAll(reflect.ValueOf(&changed).Elem())
		if got := g.ask(); !same(got, want) || !same(other, want) {
			t.Fatalf("P10.10: of %+v: %+v and %+v, was %+v", g, got, other, want)
		}
		if now := whole(g); !reflect.DeepEqual(now, was) {
			t.Fatalf("P10.10: %+v became %+v", was, now)
		}
	}
}

// TestAnswersStay: when what was handed in becomes something else.
func TestAnswersStay(t *testing.T) {
	m := newMaker(113)
	for range 2000 {
		g := m.given()
		got := g.ask()
		want := exact(got)
		spoilAll(reflect.ValueOf(&g).Elem())
		if !same(got, want) {
			t.Fatalf("P10.10: the answers became %+v, were %+v", got, want)
		}
	}
}

// stretch is a piece of memory.
type stretch struct{ from, to uintptr }

// memory: of a value all lists, up to their capacity, and all texts.
func memory(v reflect.Value) []stretch {
	var all []stretch
	switch v.Kind() {
	case reflect.Struct:
		for i := range v.NumField() {
			all = append(all, memory(v.Field(i))...)
		}
	case reflect.Slice:
		if v.Cap() > 0 {
			all = append(all, stretch{v.Pointer(), v.Pointer() + uintptr(v.Cap())*v.Type().Elem().Size()})
		}
		list := v.Slice(0, v.Cap())
		for i := range list.Len() {
			all = append(all, memory(list.Index(i))...)
		}
	case reflect.String:
		if text := v.String(); text != "" {
			from := uintptr(unsafe.Pointer(unsafe.StringData(text)))
			all = append(all, stretch{from, from + uintptr(len(text))})
		}
	}
	return all
}

// TestAnswersShareNothing: with what was handed in, nor with each other, behind the ends of their lists neither.
func TestAnswersShareNothing(t *testing.T) {
	m := newMaker(114)
	seen := 0
	for range 50 {
		g := m.given()
		first, second := g.ask(), g.ask()
		answered := slices.Concat(memory(reflect.ValueOf(first)), memory(reflect.ValueOf(second)))
		seen += len(answered)
		pieces := append(slices.Clone(answered), memory(reflect.ValueOf(g))...)
		for i, a := range answered {
			for _, b := range pieces[i+1:] {
				if a.from < b.to && b.from < a.to {
					t.Fatalf("P10.10: of %+v two lists or texts share memory: %v, %v", g, a, b)
				}
			}
		}
		runtime.KeepAlive([]any{g, first, second})
	}
	if seen < 1000 {
		t.Errorf("only %d pieces of memory were seen", seen)
	}
}

// TestSameAnswers: the same arguments have the same answers, alone and beside other calls; nil lists and empty ones are one.
func TestSameAnswers(t *testing.T) {
	m := newMaker(115)
	var all []Given
	var wanted []Answers
	for range 300 {
		g := m.given()
		all, wanted = append(all, g), append(wanted, g.ask())
		if other := exact(g); !same(other.ask(), g.ask()) {
			t.Fatalf("P1: of %+v, with nil lists for empty ones: %+v, was %+v", g, other.ask(), g.ask())
		}
	}
	var workers sync.WaitGroup
	for range 4 {
		workers.Go(func() {
			for n, g := range all {
				if got := g.ask(); !same(got, wanted[n]) {
					t.Errorf("P3: of %+v another answer: %+v, then %+v", g, wanted[n], got)
				}
			}
		})
	}
	workers.Wait()
}

// TestAnyArguments: nothing panics, and beside an error or what is not known there is nothing, whatever there is.
func TestAnyArguments(t *testing.T) {
	odd := []int{math.MinInt, -1, 0, 1, 4, 7, math.MaxInt}
	for _, op := range odd {
		for _, coef := range odd {
			for _, pred := range odd {
				for _, arg := range odd {
					one := api.Atom{Pred: pred, Args: []int{arg}, Value: api.Money(coef)}
					g := guard(api.Op(op), api.Money(arg), times(int64(coef), one), times(int64(coef), atom(pred, arg, arg)))
					wantNothing(t, g, []api.Number{number(one, api.Money(coef)), number(atom(pred, arg, arg), api.Money(op))})
				}
			}
		}
	}
	wantNothing(t, api.Guard{}, nil)
	if made, errno := guards.Of(api.Statute{}, api.GuardText{}, nil, nil); errno != api.ErrGuard || !alike(made, api.Guard{}) {
		t.Errorf("P1: Of of nothing: %+v, %d", made, errno)
	}
}

// wantNothing: beside an error.
func wantNothing(t testing.TB, g api.Guard, l []api.Number) {
	t.Helper()
	if text, errno := guards.Print(house(), g); (errno == api.OK) != (text != "") {
		t.Errorf("P4: Print(%+v): %q, %d", g, text, errno)
	}
	if opposite, errno := guards.Opposite(g); errno != api.OK && !alike(opposite, api.Guard{}) {
		t.Errorf("P4: Opposite(%+v): %+v, %d", g, opposite, errno)
	}
	if known, holds := guards.Truth(g, l); holds && !known {
		t.Errorf("P4: Truth(%+v, %+v) holds, but is not known", g, l)
	}
	guards.CheckNumbers(l)
	guards.Compare(g, api.Guard{})
	guards.Atoms([]api.Guard{g, {}, g})
}
