package wire_test

import (
	"bytes"
	"math"
	"reflect"
	"runtime"
	"slices"
	"sync"
	"testing"

	"lexprior/api"
	"lexprior/wire"
)

// Given is what calls are asked with.
type Given struct {
	Steps []api.Step
	Bytes []byte
}

// Answers is what all calls say of it.
type Answers struct {
	Steps []api.Step
	Bytes []byte
	Many  []int
	Said  []api.Errno
}

func (g Given) ask() Answers {
	var a Answers
	say := func(errno api.Errno, n int) {
		a.Said, a.Many = append(a.Said, errno), append(a.Many, n)
	}
	say(wire.Check(g.Steps))
	b, errno := wire.Encode(g.Steps)
	say(errno, 0)
	l, errno, at := wire.Decode(g.Bytes)
	say(errno, at)
	a.Steps, a.Bytes = l, b
	return a
}

// given: steps and bytes, now and then such as are refused.
func (m *maker) given() Given {
	g := Given{Steps: m.steps(6), Bytes: modelBytes(m.steps(6))}
	switch m.chance.Intn(8) {
	case 0:
		g.Steps = m.spoil(g.Steps)
	case 1:
		g.Bytes = m.bytes()
	}
	return roomy(g)
}

// relist says of a list which elements a copy of it has in its memory, and how many it shows.
type relist func(list reflect.Value) (reflect.Value, int)

func rebuilt(v reflect.Value, lists relist) reflect.Value {
	other := reflect.New(v.Type()).Elem()
	switch v.Kind() {
	case reflect.Struct:
		for i := range v.NumField() {
			other.Field(i).Set(rebuilt(v.Field(i), lists))
		}
	case reflect.Slice:
		elements, length := lists(v)
		if elements.IsNil() {
			break
		}
		list := reflect.MakeSlice(v.Type(), elements.Len(), elements.Len())
		for i := range elements.Len() {
			list.Index(i).Set(rebuilt(elements.Index(i), lists))
		}
		other.Set(list.Slice(0, length))
	default:
		other.Set(v)
	}
	return other
}

// exact: a copy whose lists have what they show; those of nothing are nil.
func exact[T any](thing T) T {
	return rebuilt(reflect.ValueOf(thing), func(list reflect.Value) (reflect.Value, int) {
		if list.Len() == 0 {
			return reflect.Zero(list.Type()), 0
		}
		return list, list.Len()
	}).Interface().(T)
}

// roomy: a copy whose lists have room behind their end, which is filled with the same things again; none is nil.
func roomy[T any](thing T) T {
	return rebuilt(reflect.ValueOf(thing), func(list reflect.Value) (reflect.Value, int) {
		twice := reflect.MakeSlice(list.Type(), 0, 0)
		return reflect.AppendSlice(reflect.AppendSlice(twice, list), list), list.Len()
	}).Interface().(T)
}

// whole: a copy whose lists show all that is in their memory.
func whole[T any](thing T) T {
	return rebuilt(reflect.ValueOf(thing), func(list reflect.Value) (reflect.Value, int) {
		return list.Slice(0, list.Cap()), list.Cap()
	}).Interface().(T)
}

// same: whether two differ in nothing but that a list is nil or empty.
func same[T any](a, b T) bool {
	return reflect.DeepEqual(exact(a), exact(b))
}

// spoilAll: every number in the lists of a value becomes another, up to the end of their memory.
func spoilAll(v reflect.Value) {
	switch v.Kind() {
	case reflect.Struct:
		for i := range v.NumField() {
			spoilAll(v.Field(i))
		}
	case reflect.Slice:
		list := v.Slice(0, v.Cap())
		for i := range list.Len() {
			spoilAll(list.Index(i))
		}
	case reflect.Int:
		v.SetInt(-7)
	case reflect.Uint8:
		v.SetUint(v.Uint() ^ 0xA5)
	}
}

// TestArgumentsStay: as they were handed in, and what stands behind their lists' ends, too.
func TestArgumentsStay(t *testing.T) {
	t.Parallel()
	m := newMaker(241)
	for range 600 {
		g := m.given()
		was := whole(g)
		g.ask()
		if now := whole(g); !reflect.DeepEqual(now, was) {
			t.Fatalf("P21.5: %s became %s", told(was), told(now))
		}
	}
}

// TestAnswersThatAreChanged: by their caller; what was handed in stays, and is answered the same anew; so do other answers.
func TestAnswersThatAreChanged(t *testing.T) {
	t.Parallel()
	m := newMaker(242)
	for range 600 {
		g := m.given()
		was, want, other := whole(g), exact(g.ask()), g.ask()
		changed := g.ask()
		spoilAll(reflect.ValueOf(&changed).Elem())
		if got := g.ask(); !same(got, want) || !same(other, want) {
			t.Fatalf("P21.5: of %s: %s and %s, was %s", told(g), told(got), told(other), told(want))
		}
		if now := whole(g); !reflect.DeepEqual(now, was) {
			t.Fatalf("P21.5: %s became %s", told(was), told(now))
		}
	}
}

// TestAnswersStay: when what was handed in becomes something else.
func TestAnswersStay(t *testing.T) {
	t.Parallel()
	m := newMaker(243)
	for range 600 {
		g := m.given()
		got := g.ask()
		want := exact(got)
		spoilAll(reflect.ValueOf(&g).Elem())
		if !same(got, want) {
			t.Fatalf("P21.5: the answers became %s, were %s", told(got), told(want))
		}
	}
}

// stretch is a piece of memory.
type stretch struct{ from, to uintptr }

// memory: of a value all lists, up to their capacity.
func memory(v reflect.Value) []stretch {
	var all []stretch
	switch v.Kind() {
	case reflect.Struct:
		for i := range v.NumField() {
			all = append(all, memory(v.Field(i))...)
		}
	case reflect.Slice:
		if v.Cap() > 0 {
			all = append(all, stretch{v.Pointer(), v.Pointer() + uintptr(v.Cap())*v.Type().Elem().Size()})
		}
		list := v.Slice(0, v.Cap())
		for i := range list.Len() {
			all = append(all, memory(list.Index(i))...)
		}
	}
	return all
}

// wantApart: no two of the pieces share anything, nor does one with what was handed in, of which pieces may.
func wantApart(t testing.TB, g Given, answered []stretch) {
	t.Helper()
	const handedIn = true
	type piece struct {
		stretch
		handedIn bool
	}
	var all []piece
	for _, a := range answered {
		all = append(all, piece{a, !handedIn})
	}
	for _, a := range memory(reflect.ValueOf(g)) {
		all = append(all, piece{a, handedIn})
	}
	slices.SortFunc(all, func(a, b piece) int {
		switch {
		case a.from < b.from:
			return -1
		case a.from > b.from:
			return 1
		}
		return 0
	})
	for n := 1; n < len(all); n++ {
		if a, b := all[n-1], all[n]; b.from < a.to && !(a.handedIn && b.handedIn) {
			t.Fatalf("P21.5: of %s two lists share memory: %v, %v", told(g), a, b)
		}
	}
}

// TestAnswersShareNothing: with what was handed in, nor with each other, behind the ends of their lists neither.
func TestAnswersShareNothing(t *testing.T) {
	t.Parallel()
	m := newMaker(244)
	seen := 0
	for range 1500 {
		g := m.given()
		first, second := g.ask(), g.ask()
		answered := slices.Concat(memory(reflect.ValueOf(first)), memory(reflect.ValueOf(second)))
		seen += len(answered)
		wantApart(t, g, answered)
		runtime.KeepAlive([]any{g, first, second})
	}
	if seen < 10000 {
		t.Errorf("only %d pieces of memory were seen", seen)
	}
}

// TestSharedChoices: steps with one list of choices are read back with lists of their own.
func TestSharedChoices(t *testing.T) {
	one := []api.Choice{{Place: 0, Rule: -1}, {Place: 7, Rule: 7}}[:1]
	g := Given{Steps: steps("-D 0 none; -D 1 none; -D 2 none")}
	for n := range g.Steps {
		g.Steps[n].Choices = one
	}
	g.Bytes, _ = wire.Encode(g.Steps)
	wantTaken(t, "choices that are shared", g.Steps, modelBytes(g.Steps))
	l, _, _ := wire.Decode(g.Bytes)
	wantApart(t, g, memory(reflect.ValueOf(l)))
	l[1].Choices[0].Place = 3
	if one[0].Place != 0 || l[0].Choices[0].Place != 0 || l[2].Choices[0].Place != 0 {
		t.Errorf("P21.5: %+v, %+v", one, l)
	}
}

// TestSameAnswers: the same arguments have the same answers, alone and beside other calls; nil lists and empty ones are one.
func TestSameAnswers(t *testing.T) {
	t.Parallel()
	m := newMaker(245)
	var all []Given
	var wanted []Answers
	for range 300 {
		g := m.given()
		all, wanted = append(all, g), append(wanted, g.ask())
		if other := exact(g); !same(other.ask(), g.ask()) {
			t.Fatalf("P1: of %s, with nil lists for empty ones: %s, was %s", told(g), told(other.ask()), told(g.ask()))
		}
	}
	var workers sync.WaitGroup
	for range 4 {
		workers.Go(func() {
			for n, g := range all {
				if got := g.ask(); !same(got, wanted[n]) {
					t.Errorf("P3: of %s another answer: %s, then %s", told(g), told(wanted[n]), told(got))
				}
			}
		})
	}
	workers.Wait()
}

// TestAnyArguments: nothing panics, and beside an error there is nothing, whatever there is.
func TestAnyArguments(t *testing.T) {
	odd := []int{math.MinInt, math.MinInt + 1, -2, -1, 0, 1, 2, 4, 5, 6, 15, 16, 4095, 4096, math.MaxInt - 1, math.MaxInt}
	for _, a := range odd {
		for _, b := range odd {
			for _, s := range []api.Step{
				{Tag: api.Tag(a), How: api.How(b)}, {Tag: 1, How: 1, Lit: a, Rule: b}, {Tag: api.Tag(a), How: 5, Rule: b},
				{Tag: 4, How: 3, Choices: []api.Choice{{Place: a, Rule: b}}}, {Tag: 4, How: 3, Choices: []api.Choice{{Place: -1, Rule: b}, {Place: a, Rule: -1}}},
				{Tag: api.Tag(a), Lit: a, How: api.How(a), Rule: a, Choices: []api.Choice{{Place: b, Rule: b}}},
			} {
				if !modelMayBe(s) {
					wantRefused(t, "any", []api.Step{s, s}, api.ErrStep, 0)
					continue
				}
				wantTaken(t, "any", []api.Step{s, s}, modelBytes([]api.Step{s, s}))
			}
		}
	}
	for c := range 256 {
		for _, n := range []int{1, 5, 10, 11, 30, 1000} {
			wantAsModel(t, bytes.Repeat([]byte{byte(c)}, n))
			wantAsModel(t, append([]byte("lxd\x01"), bytes.Repeat([]byte{byte(c)}, n)...))
			wantAsModel(t, append([]byte("lxd\x01\x09"), bytes.Repeat([]byte{byte(c)}, n)...))
		}
	}
}
