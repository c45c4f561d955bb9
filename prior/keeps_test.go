package prior_test

import (
	"math"
	"reflect"
	"runtime"
	"slices"
	"strings"
	"sync"
	"testing"
	"unsafe"

	"lexprior/api"
	"lexprior/prior"
)

// Given is what calls are asked with.
type Given struct {
	Statute api.Statute
	Ground  api.Ground
	Lists   [][]int
}

// Answers is what all calls say of it.
type Answers struct {
	Ground api.Ground
	Lists  [][]int
	Said   []int
}

func oneIf(holds bool) int {
	if holds {
		return 1
	}
	return 0
}

// ask: of all schemas and rules, and one more of each.
func (g Given) ask() Answers {
	var a Answers
	built, errno, told := prior.Build(g.Statute, g.Ground)
	a.Ground, a.Said = built, append(a.Said, int(errno))
	for over := range len(g.Statute.Rules) + 1 {
		for under := range len(g.Statute.Rules) + 1 {
			is, errno := prior.Prevails(g.Statute, over, under)
			a.Said = append(a.Said, oneIf(is), int(errno))
		}
	}
	cycle, there := prior.Cycle(g.Lists)
	order, ok := prior.Order(g.Lists)
	a.Lists, a.Said = append(a.Lists, told, cycle, order), append(a.Said, oneIf(there), oneIf(ok))
	for over := range len(g.Ground.Theory.Beats) + 1 {
		for under := range len(g.Ground.Theory.Beats) + 1 {
			a.Said = append(a.Said, oneIf(prior.Beats(g.Ground.Theory, over, under)))
		}
	}
	return a
}

// given: a statute, a ground and lists, with and without cycles; now and then spoilt.
func (m *maker) given() Given {
	schemas := 1 + m.chance.Intn(5)
	g := Given{m.statute(schemas, m.chance.Intn(4)), m.ground(7, 8, schemas), pick(m, m.ordered(8, 4), m.lists(8, 3))}
	switch m.chance.Intn(8) {
	case 0:
		m.spoilStatute(&g.Statute)
	case 1:
		m.spoilGround(&g.Ground)
	}
	return roomy(g)
}

// relist says of a list which elements a copy of it has in its memory, and how many it shows.
type relist func(list reflect.Value) (reflect.Value, int)

func rebuilt(v reflect.Value, lists relist) reflect.Value {
	other := reflect.New(v.Type()).Elem()
	switch v.Kind() {
	case reflect.Struct:
		for i := range v.NumField() {
			other.Field(i).Set(rebuilt(v.Field(i), lists))
		}
	case reflect.Slice:
		elements, length := lists(v)
		if elements.IsNil() {
			break
		}
		list := reflect.MakeSlice(v.Type(), elements.Len(), elements.Len())
		for i := range elements.Len() {
			list.Index(i).Set(rebuilt(elements.Index(i), lists))
		}
		other.Set(list.Slice(0, length))
	case reflect.String:
		other.SetString(strings.Clone(v.String()))
	default:
		other.Set(v)
	}
	return other
}

// exact: a copy whose lists have what they show; those of nothing are nil.
func exact[T any](thing T) T {
	return rebuilt(reflect.ValueOf(thing), func(list reflect.Value) (reflect.Value, int) {
		if list.Len() == 0 {
			return reflect.Zero(list.Type()), 0
		}
		return list, list.Len()
	}).Interface().(T)
}

// roomy: a copy whose lists have room behind their end, which is filled with the same things again; none is nil.
func roomy[T any](thing T) T {
	return rebuilt(reflect.ValueOf(thing), func(list reflect.Value) (reflect.Value, int) {
		twice := reflect.MakeSlice(list.Type(), 0, 0)
		return reflect.AppendSlice(reflect.AppendSlice(twice, list), list), list.Len()
	}).Interface().(T)
}

// whole: a copy whose lists show all that is in their memory.
func whole[T any](thing T) T {
	return rebuilt(reflect.ValueOf(thing), func(list reflect.Value) (reflect.Value, int) {
		return list.Slice(0, list.Cap()), list.Cap()
	}).Interface().(T)
}

// same: whether two differ in nothing but that a list is nil or empty.
func same[T any](a, b T) bool {
	return reflect.DeepEqual(exact(a), exact(b))
}

// spoilAll: every number and text in the lists of a value becomes another, up to the end of their memory.
func spoilAll(v reflect.Value) {
	switch v.Kind() {
	case reflect.Struct:
		for i := range v.NumField() {
			spoilAll(v.Field(i))
		}
	case reflect.Slice:
		list := v.Slice(0, v.Cap())
		for i := range list.Len() {
			spoilAll(list.Index(i))
		}
	case reflect.String:
		text := v.String()
		for i := range unsafe.Slice(unsafe.StringData(text), len(text)) {
			unsafe.Slice(unsafe.StringData(text), len(text))[i] = '?'
		}
	case reflect.Int, reflect.Int64:
		v.SetInt(-7)
	}
}

// TestArgumentsStay: as they were handed in, and what stands behind their lists' ends, too.
func TestArgumentsStay(t *testing.T) {
	t.Parallel()
	m := newMaker(131)
	for range 300 {
		g := m.given()
		was := whole(g)
		g.ask()
		if now := whole(g); !reflect.DeepEqual(now, was) {
			t.Fatalf("P13.8: %+v became %+v", was, now)
		}
	}
}

// TestAnswersThatAreChanged: by their caller; what was handed in stays, and is answered the same anew; so do other answers.
func TestAnswersThatAreChanged(t *testing.T) {
	t.Parallel()
	m := newMaker(132)
	for range 300 {
		g := m.given()
		was, want, other := whole(g), exact(g.ask()), g.ask()
		changed := g.ask()
		spoilAll(reflect.ValueOf(&changed).Elem())
		if got := g.ask(); !same(got, want) || !same(other, want) {
			t.Fatalf("P13.8: of %+v: %+v and %+v, was %+v", g, got, other, want)
		}
		if now := whole(g); !reflect.DeepEqual(now, was) {
			t.Fatalf("P13.8: %+v became %+v", was, now)
		}
	}
}

// TestAnswersStay: when what was handed in becomes something else.
func TestAnswersStay(t *testing.T) {
	t.Parallel()
	m := newMaker(133)
	for range 300 {
		g := m.given()
		got := g.ask()
		want := exact(got)
		spoilAll(reflect.ValueOf(&g).Elem())
		if !same(got, want) {
			t.Fatalf("P13.8: the answers became %+v, were %+v", got, want)
		}
	}
}

// stretch is a piece of memory.
type stretch struct{ from, to uintptr }

// memory: of a value all lists, up to their capacity, and all texts.
func memory(v reflect.Value) []stretch {
	var all []stretch
	switch v.Kind() {
	case reflect.Struct:
		for i := range v.NumField() {
			all = append(all, memory(v.Field(i))...)
		}
	case reflect.Slice:
		if v.Cap() > 0 {
			all = append(all, stretch{v.Pointer(), v.Pointer() + uintptr(v.Cap())*v.Type().Elem().Size()})
		}
		list := v.Slice(0, v.Cap())
		for i := range list.Len() {
			all = append(all, memory(list.Index(i))...)
		}
	case reflect.String:
		if text := v.String(); text != "" {
			from := uintptr(unsafe.Pointer(unsafe.StringData(text)))
			all = append(all, stretch{from, from + uintptr(len(text))})
		}
	}
	return all
}

// TestAnswersShareNothing: with what was handed in, nor with each other, behind the ends of their lists neither.
func TestAnswersShareNothing(t *testing.T) {
	t.Parallel()
	m := newMaker(134)
	seen := 0
	for range 200 {
		g := m.given()
		first, second := g.ask(), g.ask()
		answered := slices.Concat(memory(reflect.ValueOf(first)), memory(reflect.ValueOf(second)))
		seen += len(answered)
		pieces := append(slices.Clone(answered), memory(reflect.ValueOf(g))...)
		for i, a := range answered {
			for _, b := range pieces[i+1:] {
				if a.from < b.to && b.from < a.to {
					t.Fatalf("P13.8: of %+v two lists or texts share memory: %v, %v", g, a, b)
				}
			}
		}
		runtime.KeepAlive([]any{g, first, second})
	}
	if seen < 2000 {
		t.Errorf("only %d pieces of memory were seen", seen)
	}
}

// TestSameAnswers: the same arguments have the same answers, alone and beside other calls; nil lists and empty ones are one.
func TestSameAnswers(t *testing.T) {
	t.Parallel()
	m := newMaker(135)
	var all []Given
	var wanted []Answers
	for range 100 {
		g := m.given()
		all, wanted = append(all, g), append(wanted, g.ask())
		if other := exact(g); !same(other.ask(), g.ask()) {
			t.Fatalf("P1: of %+v, with nil lists for empty ones: %+v, was %+v", g, other.ask(), g.ask())
		}
	}
	var workers sync.WaitGroup
	for range 4 {
		workers.Go(func() {
			for n, g := range all {
				if got := g.ask(); !same(got, wanted[n]) {
					t.Errorf("P3: of %+v another answer: %+v, then %+v", g, wanted[n], got)
				}
			}
		})
	}
	workers.Wait()
}

// TestAnyArguments: nothing panics, and beside an error, a false or a none there is nothing, whatever there is.
func TestAnyArguments(t *testing.T) {
	odd := []int{math.MinInt, -1, 0, 1, 2, 4097, math.MaxInt}
	lists := [][]int{nil, {0}, {1, 0}, {1, 1}, {math.MaxInt, math.MinInt}, odd}
	statutes := []api.Statute{{}, later(2), excepted(later(3), api.Pair{A: 2, B: 0}), {Rules: make([]api.RuleText, 3)}, {Excepts: make([]api.Exception, 2)}, {Sources: make([]api.SourceText, 1)}}
	for _, s := range statutes {
		for _, n := range odd {
			for _, one := range lists {
				for _, other := range lists {
					x := api.Theory{
						Lits: 2, Foes: [][]int{{1}, {0}}, Beats: [][]int{one, other, one},
						Rules: []api.Rule{{Kind: api.Strict, Body: one}, {Kind: api.Strict, Head: 1, Body: other}},
					}
					wantNothing(t, s, api.Ground{Schema: one, Theory: x}, n)
					x.Foes, x.Lits = [][]int{one, other}, n
					wantNothing(t, s, api.Ground{Schema: []int{0, 1}, Theory: x}, n)
					x.Rules = []api.Rule{{Kind: api.Arrow(n), Head: n}}
					wantNothing(t, s, api.Ground{Schema: []int{n}, Theory: x}, n)
				}
			}
			wantNothing(t, s, api.Ground{}, n)
			wantNothing(t, s, api.Ground{Theory: api.Theory{Rules: make([]api.Rule, 5)}}, n)
		}
	}
}

// wantNothing: where nothing is answered.
func wantNothing(t testing.TB, s api.Statute, g api.Ground, n int) {
	t.Helper()
	built, errno, cycle := prior.Build(s, g)
	if errno != api.OK && !same(built, api.Ground{}) || errno != api.ErrPriorityCycle && len(cycle) > 0 {
		t.Errorf("P4: Build(%s, %s): %s, %d, %d", told(s), told(g), told(built), errno, cycle)
	}
	if is, errno := prior.Prevails(s, n, 0); errno != api.OK && is {
		t.Errorf("P4: Prevails(%s, %d, 0): true, %d", told(s), n, errno)
	}
	if is, errno := prior.Prevails(s, 0, n); errno != api.OK && is {
		t.Errorf("P4: Prevails(%s, 0, %d): true, %d", told(s), n, errno)
	}
	if cycle, there := prior.Cycle(g.Theory.Beats); there != (len(cycle) > 0) {
		t.Errorf("P4: Cycle(%d): %d, %t", g.Theory.Beats, cycle, there)
	}
	if order, ok := prior.Order(g.Theory.Beats); !ok && len(order) > 0 {
		t.Errorf("P4: Order(%d): %d, %t", g.Theory.Beats, order, ok)
	}
	prior.Beats(g.Theory, n, n)
}
