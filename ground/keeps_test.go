package ground_test

import (
	"math"
	"reflect"
	"runtime"
	"slices"
	"strings"
	"sync"
	"testing"
	"unsafe"

	"lexprior/api"
	"lexprior/ground"
)

// Given is what calls are asked with.
type Given struct {
	Statute api.Statute
	Ground  api.Ground
	Lits    []api.Lit
}

// Answers is what all calls say of it.
type Answers struct {
	Assignments [][][]int
	Ground      api.Ground
	Texts       []string
	Said        []int
}

func oneIf(holds bool) int {
	if holds {
		return 1
	}
	return 0
}

// ask: of all schemas, literals and rules, and one more of each.
func (g Given) ask() Answers {
	var a Answers
	made, errno, place := ground.Ground(g.Statute)
	a.Ground, a.Said = made, append(a.Said, int(errno), place)
	for schema := range len(g.Statute.Rules) + 1 {
		assignments, errno := ground.Assignments(g.Statute, schema)
		a.Assignments, a.Said = append(a.Assignments, assignments), append(a.Said, int(errno))
	}
	for n := range len(g.Ground.Lits) + 1 {
		text, errno := ground.Lit(g.Statute, g.Ground, n)
		a.Texts, a.Said = append(a.Texts, text), append(a.Said, int(errno))
	}
	for r := range len(g.Ground.Schema) + 1 {
		name, errno := ground.RuleName(g.Statute, g.Ground, r)
		a.Texts, a.Said = append(a.Texts, name), append(a.Said, int(errno))
	}
	for _, l := range g.Lits {
		place, there := ground.Number(g.Statute, g.Ground, l)
		a.Said = append(a.Said, place, oneIf(there))
	}
	return a
}

// given: a statute, its ground or that of one like it, and literals of both.
func (m *maker) given() Given {
	for {
		s := m.statute(4, 3, 2)
		g, _, _ := ground.Ground(s)
		if len(g.Schema) == 0 || len(g.Schema) > 20 {
			continue
		}
		lits := append(slices.Clone(g.Lits), lit(0), lit(1, 0), api.Lit{Guard: 1})
		switch m.chance.Intn(4) {
		case 0:
			m.spoil(&s)
		case 1:
			s.Members = s.Members[:len(s.Members)/2]
		case 2:
			g.Lits[0].Atom.Pred = pick(m, -1, 50, 0)
			g.Schema[0] = pick(m, -1, 50, 0)
		}
		return roomy(Given{s, g, lits})
	}
}

// relist says of a list which elements a copy of it has in its memory, and how many it shows.
type relist func(list reflect.Value) (reflect.Value, int)

func rebuilt(v reflect.Value, lists relist) reflect.Value {
	other := reflect.New(v.Type()).Elem()
	switch v.Kind() {
	case reflect.Struct:
		for i := range v.NumField() {
			other.Field(i).Set(rebuilt(v.Field(i), lists))
		}
	case reflect.Slice:
		elements, length := lists(v)
		if elements.IsNil() {
			break
		}
		list := reflect.MakeSlice(v.Type(), elements.Len(), elements.Len())
		for i := range elements.Len() {
			list.Index(i).Set(rebuilt(elements.Index(i), lists))
		}
		other.Set(list.Slice(0, length))
	case reflect.String:
		other.SetString(strings.Clone(v.String()))
	default:
		other.Set(v)
	}
	return other
}

// exact: a copy whose lists have what they show; those of nothing are nil.
func exact[T any](thing T) T {
	return rebuilt(reflect.ValueOf(thing), func(list reflect.Value) (reflect.Value, int) {
		if list.Len() == 0 {
			return reflect.Zero(list.Type()), 0
		}
		return list, list.Len()
	}).Interface().(T)
}

// roomy: a copy whose lists have room behind their end, which is filled with the same things again; none is nil.
func roomy[T any](thing T) T {
	return rebuilt(reflect.ValueOf(thing), func(list reflect.Value) (reflect.Value, int) {
		twice := reflect.MakeSlice(list.Type(), 0, 0)
		return reflect.AppendSlice(reflect.AppendSlice(twice, list), list), list.Len()
	}).Interface().(T)
}

// whole: a copy whose lists show all that is in their memory.
func whole[T any](thing T) T {
	return rebuilt(reflect.ValueOf(thing), func(list reflect.Value) (reflect.Value, int) {
		return list.Slice(0, list.Cap()), list.Cap()
	}).Interface().(T)
}

// same: whether two differ in nothing but that a list is nil or empty.
func same[T any](a, b T) bool {
	return reflect.DeepEqual(exact(a), exact(b))
}

// spoilAll: every number and text in the lists of a value becomes another, up to the end of their memory.
func spoilAll(v reflect.Value) {
	switch v.Kind() {
	case reflect.Struct:
		for i := range v.NumField() {
			spoilAll(v.Field(i))
		}
	case reflect.Slice:
		list := v.Slice(0, v.Cap())
		for i := range list.Len() {
			spoilAll(list.Index(i))
		}
	case reflect.String:
		text := v.String()
		for i := range unsafe.Slice(unsafe.StringData(text), len(text)) {
			unsafe.Slice(unsafe.StringData(text), len(text))[i] = '?'
		}
	case reflect.Int, reflect.Int64:
		v.SetInt(-7)
	}
}

// TestArgumentsStay: as they were handed in, and what stands behind their lists' ends, too.
func TestArgumentsStay(t *testing.T) {
	t.Parallel()
	m := newMaker(131)
	for range 300 {
		g := m.given()
		was := whole(g)
		g.ask()
		if now := whole(g); !reflect.DeepEqual(now, was) {
			t.Fatalf("P11.7: %+v became %+v", was, now)
		}
	}
}

// TestAnswersThatAreChanged: by their caller; what was handed in stays, and is answered the same anew; so do other answers.
func TestAnswersThatAreChanged(t *testing.T) {
	t.Parallel()
	m := newMaker(132)
	for range 300 {
		g := m.given()
		was, want, other := whole(g), exact(g.ask()), g.ask()
		changed := g.ask()
		spoilAll(reflect.ValueOf(&changed).Elem())
		if got := g.ask(); !same(got, want) || !same(other, want) {
			t.Fatalf("P11.7: of %+v: %+v and %+v, was %+v", g, got, other, want)
		}
		if now := whole(g); !reflect.DeepEqual(now, was) {
			t.Fatalf("P11.7: %+v became %+v", was, now)
		}
	}
}

// TestAnswersStay: when what was handed in becomes something else.
func TestAnswersStay(t *testing.T) {
	t.Parallel()
	m := newMaker(133)
	for range 300 {
		g := m.given()
		got := g.ask()
		want := exact(got)
		spoilAll(reflect.ValueOf(&g).Elem())
		if !same(got, want) {
			t.Fatalf("P11.7: the answers became %+v, were %+v", got, want)
		}
	}
}

// stretch is a piece of memory.
type stretch struct{ from, to uintptr }

// memory: of a value all lists, up to their capacity, and all texts.
func memory(v reflect.Value) []stretch {
	var all []stretch
	switch v.Kind() {
	case reflect.Struct:
		for i := range v.NumField() {
			all = append(all, memory(v.Field(i))...)
		}
	case reflect.Slice:
		if v.Cap() > 0 {
			all = append(all, stretch{v.Pointer(), v.Pointer() + uintptr(v.Cap())*v.Type().Elem().Size()})
		}
		list := v.Slice(0, v.Cap())
		for i := range list.Len() {
			all = append(all, memory(list.Index(i))...)
		}
	case reflect.String:
		if text := v.String(); text != "" {
			from := uintptr(unsafe.Pointer(unsafe.StringData(text)))
			all = append(all, stretch{from, from + uintptr(len(text))})
		}
	}
	return all
}

// TestAnswersShareNothing: with what was handed in, nor with each other, behind the ends of their lists neither.
func TestAnswersShareNothing(t *testing.T) {
	t.Parallel()
	m := newMaker(134)
	seen := 0
	for range 40 {
		g := m.given()
		first, second := g.ask(), g.ask()
		answered := slices.Concat(memory(reflect.ValueOf(first)), memory(reflect.ValueOf(second)))
		seen += len(answered)
		pieces := append(slices.Clone(answered), memory(reflect.ValueOf(g))...)
		for i, a := range answered {
			for _, b := range pieces[i+1:] {
				if a.from < b.to && b.from < a.to {
					t.Fatalf("P11.7: of %+v two lists or texts share memory: %v, %v", g, a, b)
				}
			}
		}
		runtime.KeepAlive([]any{g, first, second})
	}
	if seen < 2000 {
		t.Errorf("only %d pieces of memory were seen", seen)
	}
}

// TestSameAnswers: the same arguments have the same answers, alone and beside other calls; nil lists and empty ones are one.
func TestSameAnswers(t *testing.T) {
	t.Parallel()
	m := newMaker(135)
	var all []Given
	var wanted []Answers
	for range 100 {
		g := m.given()
		all, wanted = append(all, g), append(wanted, g.ask())
		if other := exact(g); !same(other.ask(), g.ask()) {
			t.Fatalf("P1: of %+v, with nil lists for empty ones: %+v, was %+v", g, other.ask(), g.ask())
		}
	}
	var workers sync.WaitGroup
	for range 4 {
		workers.Go(func() {
			for n, g := range all {
				if got := g.ask(); !same(got, wanted[n]) {
					t.Errorf("P3: of %+v another answer: %+v, then %+v", g, wanted[n], got)
				}
			}
		})
	}
	workers.Wait()
}

// TestAnyArguments: nothing panics, and beside an error there is nothing, whatever there is.
func TestAnyArguments(t *testing.T) {
	odd := []int{math.MinInt, -1, 0, 1, 2, math.MaxInt}
	statutes := []api.Statute{{}, withRules(t, "old(X), {income(X) < 5} => help(X) = 10"), {Rules: make([]api.RuleText, 3)}, {Preds: make([]api.PredText, 2), Members: make([]api.MemberText, 2), Rules: make([]api.RuleText, 1)}}
	for _, s := range statutes {
		for _, a := range odd {
			for _, b := range odd {
				l := api.Lit{Atom: api.Atom{Pred: a, Args: []int{b}, Value: api.Money(a)}, Guard: b}
				g := api.Ground{
					Lits: []api.Lit{l, lit(a, b, a), {Guard: a}}, Schema: []int{a, b, a},
					Guards: []api.Guard{{Op: api.Op(a), Terms: []api.Term{{Coef: 1, Atom: api.Atom{Pred: b}}}}},
					Theory: api.Theory{Lits: a, Rules: make([]api.Rule, 3)},
				}
				wantNothing(t, s, g, l, odd)
			}
		}
		wantNothing(t, s, api.Ground{}, api.Lit{}, odd)
	}
}

// wantNothing: beside an error.
func wantNothing(t testing.TB, s api.Statute, g api.Ground, l api.Lit, odd []int) {
	t.Helper()
	for _, n := range odd {
		if text, errno := ground.Lit(s, g, n); errno != api.OK && text != "" {
			t.Errorf("P4: Lit(%+v, %d): %q, %d", g, n, text, errno)
		}
		if name, errno := ground.RuleName(s, g, n); errno != api.OK && name != "" {
			t.Errorf("P4: RuleName(%+v, %d): %q, %d", g, n, name, errno)
		}
		if list, errno := ground.Assignments(s, n); errno != api.OK && len(list) > 0 {
			t.Errorf("P4: Assignments(%+v, %d): %d, %d", s, n, list, errno)
		}
	}
	if made, errno, _ := ground.Ground(s); errno != api.OK && !same(made, api.Ground{}) {
		t.Errorf("P4: Ground(%+v): %+v, %d", s, made, errno)
	}
	if place, there := ground.Number(s, g, l); !there && place != 0 {
		t.Errorf("P4: Number(%+v, %+v): %d", g, l, place)
	}
}
