package checker_test

import (
	"math"
	"reflect"
	"runtime"
	"slices"
	"sync"
	"testing"

	"lexprior/api"
	"lexprior/checker"
)

// Given is what calls are asked with.
type Given struct {
	Theory api.Theory
	Facts  []int
	Bytes  []byte
}

// Answers is what all calls say of it.
type Answers struct {
	Claim checker.Claim
	Shown []api.Marks
	Lists [][]byte
	Many  []int
	Is    []bool
	Said  []api.Errno
}

// ask: of each literal, and one more; of each tag, and one more.
func (g Given) ask() Answers {
	var a Answers
	list := func(b []byte, errno api.Errno) {
		a.Lists, a.Said = append(a.Lists, b), append(a.Said, errno)
	}
	list(checker.Whole(g.Theory, g.Facts))
	for lit := range len(g.Theory.Foes) + 1 {
		for _, tag := range append(tags, 5) {
			list(checker.Certify(g.Theory, g.Facts, lit, tag))
			a.Is = append(a.Is, checker.Accepts(g.Theory, g.Facts, g.Bytes, lit, tag))
		}
	}
	claim, errno, at := checker.Check(g.Theory, g.Facts, g.Bytes)
	shown, other, place := checker.Shown(g.Theory, g.Facts, g.Bytes)
	a.Claim, a.Shown, a.Many, a.Said = claim, shown, append(a.Many, at, place), append(a.Said, errno, other)
	return a
}

// given: a theory, facts and bytes of a derivation, now and then spoilt.
func (m *maker) given() Given {
	x := pick(m, m.theory, m.row)(pick(m, 3, 6, 9), pick(m, 4, 12))
	g := Given{Theory: x, Facts: m.some(6, x.Lits)}
	g.Bytes = modelBytes(m.derivation(x, g.Facts, pick(m, 40, 80)))
	switch m.chance.Intn(12) {
	case 0:
		m.spoil(&g.Theory)
	case 1:
		g.Facts = m.change(g.Facts, x.Lits)
	case 2:
		g.Bytes = m.turnBytes(g.Bytes)
	case 3:
		g.Bytes = m.bytes(x, g.Facts)
	}
	return roomy(g)
}

// relist says of a list which elements a copy of it has in its memory, and how many it shows.
type relist func(list reflect.Value) (reflect.Value, int)

func rebuilt(v reflect.Value, lists relist) reflect.Value {
	other := reflect.New(v.Type()).Elem()
	switch v.Kind() {
	case reflect.Struct:
		for i := range v.NumField() {
			other.Field(i).Set(rebuilt(v.Field(i), lists))
		}
	case reflect.Slice:
		elements, length := lists(v)
		if elements.IsNil() {
			break
		}
		list := reflect.MakeSlice(v.Type(), elements.Len(), elements.Len())
		for i := range elements.Len() {
			list.Index(i).Set(rebuilt(elements.Index(i), lists))
		}
		other.Set(list.Slice(0, length))
	default:
		other.Set(v)
	}
	return other
}

// exact: a copy whose lists have what they show; those of nothing are nil.
func exact[T any](thing T) T {
	return rebuilt(reflect.ValueOf(thing), func(list reflect.Value) (reflect.Value, int) {
		if list.Len() == 0 {
			return reflect.Zero(list.Type()), 0
		}
		return list, list.Len()
	}).Interface().(T)
}

// roomy: a copy whose lists have room behind their end, which is filled with the same things again; none is nil.
func roomy[T any](thing T) T {
	return rebuilt(reflect.ValueOf(thing), func(list reflect.Value) (reflect.Value, int) {
		twice := reflect.MakeSlice(list.Type(), 0, 0)
		return reflect.AppendSlice(reflect.AppendSlice(twice, list), list), list.Len()
	}).Interface().(T)
}

// whole: a copy whose lists show all that is in their memory.
func whole[T any](thing T) T {
	return rebuilt(reflect.ValueOf(thing), func(list reflect.Value) (reflect.Value, int) {
		return list.Slice(0, list.Cap()), list.Cap()
	}).Interface().(T)
}

// same: whether two differ in nothing but that a list is nil or empty.
func same[T any](a, b T) bool {
	return reflect.DeepEqual(exact(a), exact(b))
}

// spoilAll: every number in the lists of a value becomes another, up to the end of their memory.
func spoilAll(v reflect.Value) {
	switch v.Kind() {
	case reflect.Struct:
		for i := range v.NumField() {
			spoilAll(v.Field(i))
		}
	case reflect.Slice:
		list := v.Slice(0, v.Cap())
		for i := range list.Len() {
			spoilAll(list.Index(i))
		}
	case reflect.Int:
		v.SetInt(-7)
	case reflect.Uint8:
		v.SetUint(v.Uint() ^ 0xA5)
	case reflect.Bool:
		v.SetBool(!v.Bool())
	}
}

// TestArgumentsStay: as they were handed in, and what stands behind their lists' ends, too.
func TestArgumentsStay(t *testing.T) {
	t.Parallel()
	m := newMaker(221)
	for range 300 {
		g := m.given()
		was := whole(g)
		g.ask()
		if now := whole(g); !reflect.DeepEqual(now, was) {
			t.Fatalf("P22.8: %+v became %+v", was, now)
		}
	}
}

// TestAnswersThatAreChanged: by their caller; what was handed in stays, and is answered the same anew; so do other answers.
func TestAnswersThatAreChanged(t *testing.T) {
	t.Parallel()
	m := newMaker(222)
	for range 300 {
		g := m.given()
		was, want, other := whole(g), exact(g.ask()), g.ask()
		changed := g.ask()
		spoilAll(reflect.ValueOf(&changed).Elem())
		if got := g.ask(); !same(got, want) || !same(other, want) {
			t.Fatalf("P22.8: of %+v: %+v and %+v, was %+v", g, got, other, want)
		}
		if now := whole(g); !reflect.DeepEqual(now, was) {
			t.Fatalf("P22.8: %+v became %+v", was, now)
		}
	}
}

// TestAnswersStay: when what was handed in becomes something else.
func TestAnswersStay(t *testing.T) {
	t.Parallel()
	m := newMaker(223)
	for range 300 {
		g := m.given()
		got := g.ask()
		want := exact(got)
		spoilAll(reflect.ValueOf(&g).Elem())
		if !same(got, want) {
			t.Fatalf("P22.8: the answers became %+v, were %+v", got, want)
		}
	}
}

// stretch is a piece of memory.
type stretch struct{ from, to uintptr }

// memory: of a value all lists, up to their capacity.
func memory(v reflect.Value) []stretch {
	var all []stretch
	switch v.Kind() {
	case reflect.Struct:
		for i := range v.NumField() {
			all = append(all, memory(v.Field(i))...)
		}
	case reflect.Slice:
		if v.Cap() > 0 {
			all = append(all, stretch{v.Pointer(), v.Pointer() + uintptr(v.Cap())*v.Type().Elem().Size()})
		}
		list := v.Slice(0, v.Cap())
		for i := range list.Len() {
			all = append(all, memory(list.Index(i))...)
		}
	}
	return all
}

// wantApart: no two of the pieces share anything, nor does one with what was handed in, of which pieces may.
func wantApart(t testing.TB, g Given, answered []stretch) {
	t.Helper()
	const handedIn = true
	type piece struct {
		stretch
		handedIn bool
	}
	var all []piece
	for _, a := range answered {
		all = append(all, piece{a, !handedIn})
	}
	for _, a := range memory(reflect.ValueOf(g)) {
		all = append(all, piece{a, handedIn})
	}
	slices.SortFunc(all, func(a, b piece) int {
		switch {
		case a.from < b.from:
			return -1
		case a.from > b.from:
			return 1
		}
		return 0
	})
	for n := 1; n < len(all); n++ {
		if a, b := all[n-1], all[n]; b.from < a.to && !(a.handedIn && b.handedIn) {
			t.Fatalf("P22.8: of %s two lists share memory: %v, %v", told(g), a, b)
		}
	}
}

// TestAnswersShareNothing: with what was handed in, nor with each other, behind the ends of their lists neither.
func TestAnswersShareNothing(t *testing.T) {
	t.Parallel()
	m := newMaker(224)
	seen := 0
	for range 400 {
		g := m.given()
		first, second := g.ask(), g.ask()
		answered := slices.Concat(memory(reflect.ValueOf(first)), memory(reflect.ValueOf(second)))
		seen += len(answered)
		wantApart(t, g, answered)
		runtime.KeepAlive([]any{g, first, second})
	}
	if seen < 5000 {
		t.Errorf("only %d pieces of memory were seen", seen)
	}
}

// TestSameAnswers: the same arguments have the same answers, alone and beside other calls; nil lists and empty ones are one.
func TestSameAnswers(t *testing.T) {
	t.Parallel()
	m := newMaker(225)
	var all []Given
	var wanted []Answers
	for range 100 {
		g := m.given()
		all, wanted = append(all, g), append(wanted, g.ask())
		if other := exact(g); !same(other.ask(), g.ask()) {
			t.Fatalf("P1: of %+v, with nil lists for empty ones: %+v, was %+v", g, other.ask(), g.ask())
		}
	}
	var workers sync.WaitGroup
	for range 4 {
		workers.Go(func() {
			for n, g := range all {
				if got := g.ask(); !same(got, wanted[n]) {
					t.Errorf("P3: of %+v another answer: %+v, then %+v", g, wanted[n], got)
				}
			}
		})
	}
	workers.Wait()
}

// TestAnswersOfOneCall: bytes that Certify and Whole made, and marks of Shown, changed by their caller, change nothing that is asked behind them.
func TestAnswersOfOneCall(t *testing.T) {
	x, l := chain()
	facts := lits(0)
	for range 3 {
		b, _ := checker.Whole(x, facts)
		said, _, _ := checker.Shown(x, facts, b)
		for n := range b {
			b[n] = 0
		}
		for n := range said {
			said[n] = 15
		}
		c, _ := checker.Certify(x, facts, 5, api.MinusPartial)
		clear(c[:cap(c)])
		wantTaken(t, "chain", x, facts, l)
		wantWhole(t, x, facts, []api.Marks{5, 5, 5, 6, 6, 10})
		certified(t, x, facts, 5, api.MinusPartial)
	}
}

// TestAnyArguments: nothing panics, and beside an error there is nothing, whatever there is.
func TestAnyArguments(t *testing.T) {
	odd := []int{math.MinInt, -1, 0, 1, 2, 4097, math.MaxInt}
	lists := [][]int{nil, {0}, {1}, {1, 0}, {math.MaxInt, math.MinInt}, upTo(100)}
	all := someBytes()
	asked := 0
	for _, lits := range odd {
		for _, foes := range lists {
			for _, beats := range lists {
				for _, n := range odd {
					x := api.Theory{
						Lits: lits, Foes: [][]int{foes, beats}, Beats: [][]int{beats, foes},
						Rules: []api.Rule{{Kind: api.Arrow(n), Head: n, Body: foes}, {Kind: api.Strict, Head: n, Body: beats}},
					}
					asked++
					wantNothing(t, Given{x, foes, all[asked%len(all)]})
					x.Rules = x.Rules[:n&1]
					wantNothing(t, Given{x, beats, all[asked%len(all)]})
				}
			}
		}
	}
	for _, x := range []api.Theory{
		{}, plain(2), town(), village(), from("1; 0 -> 0; 0 => 0"), from("2; => 0; 0 => 1; 0 # 1; 1 > 0"),
		{Lits: 4096}, {Rules: make([]api.Rule, 4096)}, {Beats: make([][]int, 4096)},
	} {
		for _, b := range all {
			wantNothing(t, Given{x, nil, b})
			wantNothing(t, Given{x, odd, b})
		}
		for _, n := range odd {
			for _, k := range odd {
				checker.Accepts(x, nil, all[0], n, api.Tag(k))
				checker.Certify(x, nil, n, api.Tag(k))
			}
		}
	}
}

// wantNothing: beside an error.
func wantNothing(t testing.TB, g Given) {
	t.Helper()
	a := g.ask()
	for n, b := range a.Lists {
		if a.Said[n] != api.OK && len(b) > 0 {
			t.Errorf("P4: of %s: %s beside %d", told(g), digits(b), a.Said[n])
		}
	}
	if errno := a.Said[len(a.Lists)]; errno != api.OK && (a.Claim != (checker.Claim{}) || len(a.Shown) > 0 || slices.Contains(a.Is, true)) {
		t.Errorf("P4: of %s: %+v, %v beside %d", told(g), a.Claim, a.Shown, errno)
	}
}
