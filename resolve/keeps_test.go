package resolve_test

import (
	"reflect"
	"runtime"
	"slices"
	"sync"
	"testing"
	"unsafe"

	"lexprior/api"
	"lexprior/resolve"
)

// roomy: a copy whose lists have room behind their end, which is filled with the same things again; none is nil.
func roomy[T any](thing T) T {
	return rebuilt(reflect.ValueOf(thing), func(list reflect.Value) (reflect.Value, int) {
		twice := reflect.MakeSlice(list.Type(), 0, 0)
		return reflect.AppendSlice(reflect.AppendSlice(twice, list), list), list.Len()
	}).Interface().(T)
}

// whole: a copy whose lists show all that is in their memory.
func whole[T any](thing T) T {
	return rebuilt(reflect.ValueOf(thing), func(list reflect.Value) (reflect.Value, int) {
		return list.Slice(0, list.Cap()), list.Cap()
	}).Interface().(T)
}

// TestArgumentsStay: as they were handed in, and what stands behind their lists' ends, too.
func TestArgumentsStay(t *testing.T) {
	m := newMaker(91)
	for n := range 1000 {
		s := roomy(m.spoilt(n % 3))
		was := whole(s)
		answersOf(s)
		for _, name := range names {
			wantAsked(t, s, name)
		}
		if now := whole(s); !reflect.DeepEqual(now, was) {
			t.Fatalf("P8.8: %+v became %+v", was, now)
		}
	}
	l := roomy(lit("lives", "ann", "home"))
	wantLiteral(t, parsed(t, house), l, ground(false, 4, 0, 0, 2), api.OK)
	if now := whole(l); !reflect.DeepEqual(now, lit("lives", "ann", "home", "ann", "home")) {
		t.Errorf("P8.8: the literal became %+v", now)
	}
}

// stretch is a piece of memory.
type stretch struct{ from, to uintptr }

// memory: of a value all lists, up to their capacity, and all texts.
func memory(v reflect.Value) []stretch {
	var all []stretch
	switch v.Kind() {
	case reflect.Struct:
		for i := range v.NumField() {
			all = append(all, memory(v.Field(i))...)
		}
	case reflect.Slice:
		if v.Cap() > 0 {
			all = append(all, stretch{v.Pointer(), v.Pointer() + uintptr(v.Cap())*v.Type().Elem().Size()})
		}
		for i := range v.Len() {
			all = append(all, memory(v.Index(i))...)
		}
	case reflect.String:
		if text := v.String(); text != "" {
			from := uintptr(unsafe.Pointer(unsafe.StringData(text)))
			all = append(all, stretch{from, from + uintptr(len(text))})
		}
	}
	return all
}

// TestAnswersShareNothing: with a statute, nor with each other.
func TestAnswersShareNothing(t *testing.T) {
	s := parsed(t, house)
	s = roomy(s)
	l := roomy(lit("lives", "ann", "home"))
	first, second := answersOf(s), answersOf(s)
	lits := []api.Lit{}
	for range 2 {
		lit, _ := resolve.Literal(s, l)
		lits = append(lits, lit)
	}
	pieces := slices.Concat(memory(reflect.ValueOf(first)), memory(reflect.ValueOf(second)), memory(reflect.ValueOf(lits)))
	if len(pieces) < 30 {
		t.Errorf("only %d pieces of memory were seen", len(pieces))
	}
	pieces = append(pieces, memory(reflect.ValueOf(l))...)
	answered := len(pieces)
	pieces = append(pieces, memory(reflect.ValueOf(s))...)
	for i, a := range pieces[:answered] {
		for _, b := range pieces[i+1:] {
			if a.from < b.to && b.from < a.to {
				t.Errorf("P8.8: two lists or texts share memory: %v, %v", a, b)
			}
		}
	}
	runtime.KeepAlive([]any{s, l, first, second, lits})
}

// spoilAll: every byte of the lists and texts of a value becomes another, up to the end of their memory.
func spoilAll(v reflect.Value) {
	switch v.Kind() {
	case reflect.Struct:
		for i := range v.NumField() {
			spoilAll(v.Field(i))
		}
	case reflect.Slice:
		list := v.Slice(0, v.Cap())
		for i := range list.Len() {
			spoilAll(list.Index(i))
		}
	case reflect.String:
		text := v.String()
		for i := range unsafe.Slice(unsafe.StringData(text), len(text)) {
			unsafe.Slice(unsafe.StringData(text), len(text))[i] = '?'
		}
	case reflect.Bool:
		if v.CanSet() {
			v.SetBool(!v.Bool())
		}
	default:
		if v.CanSet() {
			v.SetInt(-7)
		}
	}
}

// TestAnswersThatAreChanged: by their caller; the statute stays, and answers the same anew.
func TestAnswersThatAreChanged(t *testing.T) {
	m := newMaker(92)
	for range 200 {
		s := roomy(m.statute())
		was := whole(s)
		want := roomy(answersOf(s))
		changed := answersOf(s)
		spoilAll(reflect.ValueOf(&changed).Elem())
		if got := answersOf(s); !same(got, want) {
			t.Fatalf("P8.8: of %+v: %+v, was %+v", s, got, want)
		}
		if now := whole(s); !reflect.DeepEqual(now, was) {
			t.Fatalf("P8.8: %+v became %+v", was, now)
		}
	}
}

// TestAnswersStay: a statute that becomes another behind the calls leaves their answers as they were.
func TestAnswersStay(t *testing.T) {
	m := newMaker(93)
	for range 200 {
		s := roomy(m.statute())
		got := answersOf(s)
		want := roomy(got)
		spoilAll(reflect.ValueOf(&s).Elem())
		if !same(got, want) {
			t.Fatalf("P8.8: the answers became %+v, were %+v", got, want)
		}
	}
}

// TestSameAnswers: the same arguments have the same answers, alone and beside other calls; nil lists and empty ones are one.
func TestSameAnswers(t *testing.T) {
	m := newMaker(94)
	var statutes []api.Statute
	var wanted []answers
	for n := range 300 {
		s := m.spoilt(n % 3)
		statutes = append(statutes, s)
		wanted = append(wanted, answersOf(s))
		if other := roomy(s); !same(answersOf(other), wanted[n]) {
			t.Fatalf("P1: with empty lists for nil ones: %+v, was %+v", answersOf(other), wanted[n])
		}
	}
	var workers sync.WaitGroup
	for range 4 {
		workers.Go(func() {
			for n, s := range statutes {
				if got := answersOf(s); !same(got, wanted[n]) {
					t.Errorf("P3: of %+v another answer: %+v, then %+v", s, wanted[n], got)
				}
			}
		})
	}
	workers.Wait()
}
