package delta_test

import (
	"math"
	"reflect"
	"runtime"
	"slices"
	"sync"
	"testing"

	"lexprior/api"
	"lexprior/delta"
)

// Asked is what the calls say that change nothing.
type Asked struct {
	Facts   []int
	Marks   []api.Marks
	Touched []int
}

func askAll(e *delta.Engine) Asked {
	return Asked{e.Facts(), e.Marks(), e.Touched()}
}

// relist says of a list which elements a copy of it has in its memory, and how many it shows.
type relist func(list reflect.Value) (reflect.Value, int)

func rebuilt(v reflect.Value, lists relist) reflect.Value {
	other := reflect.New(v.Type()).Elem()
	switch v.Kind() {
	case reflect.Struct:
		for i := range v.NumField() {
			other.Field(i).Set(rebuilt(v.Field(i), lists))
		}
	case reflect.Slice:
		elements, length := lists(v)
		if elements.IsNil() {
			break
		}
		list := reflect.MakeSlice(v.Type(), elements.Len(), elements.Len())
		for i := range elements.Len() {
			list.Index(i).Set(rebuilt(elements.Index(i), lists))
		}
		other.Set(list.Slice(0, length))
	default:
		other.Set(v)
	}
	return other
}

// exact: a copy whose lists have what they show; those of nothing are nil.
func exact[T any](thing T) T {
	return rebuilt(reflect.ValueOf(thing), func(list reflect.Value) (reflect.Value, int) {
		if list.Len() == 0 {
			return reflect.Zero(list.Type()), 0
		}
		return list, list.Len()
	}).Interface().(T)
}

// roomy: a copy whose lists have room behind their end, which is filled with the same things again; none is nil.
func roomy[T any](thing T) T {
	return rebuilt(reflect.ValueOf(thing), func(list reflect.Value) (reflect.Value, int) {
		twice := reflect.MakeSlice(list.Type(), 0, 0)
		return reflect.AppendSlice(reflect.AppendSlice(twice, list), list), list.Len()
	}).Interface().(T)
}

// whole: a copy whose lists show all that is in their memory.
func whole[T any](thing T) T {
	return rebuilt(reflect.ValueOf(thing), func(list reflect.Value) (reflect.Value, int) {
		return list.Slice(0, list.Cap()), list.Cap()
	}).Interface().(T)
}

// same: whether two differ in nothing but that a list is nil or empty.
func same[T any](a, b T) bool {
	return reflect.DeepEqual(exact(a), exact(b))
}

// spoilAll: every number in the lists of a value becomes another, up to the end of their memory.
func spoilAll(v reflect.Value) {
	switch v.Kind() {
	case reflect.Struct:
		for i := range v.NumField() {
			spoilAll(v.Field(i))
		}
	case reflect.Slice:
		list := v.Slice(0, v.Cap())
		for i := range list.Len() {
			spoilAll(list.Index(i))
		}
	case reflect.Int:
		v.SetInt(-7)
	case reflect.Uint8:
		v.SetUint(^v.Uint() & 0xFF)
	}
}

// TestArgumentsStay: as they were handed in, and what stands behind their lists' ends, too.
func TestArgumentsStay(t *testing.T) {
	t.Parallel()
	m := newMaker(211)
	for range 300 {
		x := roomy(m.any())
		if m.oneIn(4) {
			m.spoil(&x)
		}
		was := whole(x)
		e, _ := delta.New(x)
		for range 30 {
			c := m.call(len(x.Foes))
			c.facts = roomy(c.facts)
			given := whole(c.facts)
			c.do(e)
			if now := whole(c.facts); !slices.Equal(now, given) {
				t.Fatalf("P19.6: Set's %v became %v", given, now)
			}
		}
		askAll(e.Copy())
		if now := whole(x); !reflect.DeepEqual(now, was) {
			t.Fatalf("P19.6: %+v became %+v", was, now)
		}
	}
}

// TestArgumentsAreNotKept: the theory and the facts become something else behind each call; the engine goes on as if they had not.
func TestArgumentsAreNotKept(t *testing.T) {
	t.Parallel()
	m := newMaker(212)
	for range 300 {
		x := m.any()
		given := roomy(x)
		p := pair{newEngine(t, given), newModel(t, x)}
		spoilAll(reflect.ValueOf(&given).Elem())
		for range 30 {
			c := m.call(x.Lits)
			handed := c
			handed.facts = roomy(c.facts)
			got := handed.do(p.engine)
			spoilAll(reflect.ValueOf(&handed.facts).Elem())
			if want, _ := p.model.do(t, c); !got.is(want) {
				t.Fatalf("P19.6: %+v: %+v, want %+v", c, got, want)
			}
			wantState(t, p.engine, p.model.facts, p.model.marks)
		}
		wantState(t, p.engine.Copy(), p.model.facts, p.model.marks)
		if t.Failed() {
			t.FailNow()
		}
	}
}

// TestAnswersThatAreChanged: by their caller; the engine answers the same anew, and other answers stay.
func TestAnswersThatAreChanged(t *testing.T) {
	t.Parallel()
	m := newMaker(213)
	for range 300 {
		p := newPair(t, m.any())
		var earlier, wanted []answer
		for range 30 {
			c := m.call(p.model.theory.Lits)
			got := p.step(t, c)
			if m.oneIn(2) {
				spoilAll(reflect.ValueOf(&got.changes).Elem())
			} else {
				earlier, wanted = append(earlier, got), append(wanted, answer{slices.Clone(got.changes), got.errno})
			}
			before, other, changed := exact(askAll(p.engine)), askAll(p.engine), askAll(p.engine)
			spoilAll(reflect.ValueOf(&changed).Elem())
			if now := askAll(p.engine); !same(now, before) || !same(other, before) {
				t.Fatalf("P19.6: %+v and %+v, was %+v", now, other, before)
			}
			p.wantAll(t)
		}
		for n := range earlier {
			if !earlier[n].is(wanted[n]) {
				t.Fatalf("P19.6: an earlier answer became %+v, was %+v", earlier[n], wanted[n])
			}
		}
		if t.Failed() {
			t.FailNow()
		}
	}
}

// TestCopiesApart: an engine and its copies go their own ways; a copy of a copy, too.
func TestCopiesApart(t *testing.T) {
	e := newEngine(t, from("4; 0 => 1; 1 => 2; 2 # 3"))
	wantDone(t, e, add(0), lits(0), marks(held, won, won, lost))
	c := e.Copy()
	wantState(t, c, lits(0), marks(held, won, won, lost))
	wantTouched(t, c, 0, 1, 2, 3)
	wantRefused(t, c, add(0), api.ErrFact)
	wantDone(t, c, add(3), lits(0, 3), marks(held, won, lost, held))
	wantTouched(t, c, 2, 3)
	wantState(t, e, lits(0), marks(held, won, won, lost))
	wantTouched(t, e, 0, 1, 2, 3)
	again := c.Copy()
	wantDone(t, c, drop(0), lits(3), marks(lost, lost, lost, held))
	wantDone(t, e, set(1, 2), lits(1, 2), marks(lost, held, held, lost))
	wantState(t, again, lits(0, 3), marks(held, won, lost, held))
	wantDone(t, again, set(), nil, many(4, lost))
	wantState(t, c, lits(3), marks(lost, lost, lost, held))
	wantState(t, e, lits(1, 2), marks(lost, held, held, lost))
	fresh := newEngine(t, from("2; 0 => 1")).Copy()
	wantState(t, fresh, nil, marks(lost, lost))
	wantTouched(t, fresh)
	wantDone(t, fresh, add(0), lits(0), marks(held, won))
}

// stretch is a piece of memory.
type stretch struct{ from, to uintptr }

// memory: of a value all that it reaches: lists up to their capacity, maps, what pointers point to.
func memory(v reflect.Value) []stretch {
	var all []stretch
	piece := func(size uintptr) {
		all = append(all, stretch{v.Pointer(), v.Pointer() + size})
	}
	switch v.Kind() {
	case reflect.Struct:
		for i := range v.NumField() {
			all = append(all, memory(v.Field(i))...)
		}
	case reflect.Pointer:
		if !v.IsNil() {
			piece(v.Type().Elem().Size())
			all = append(all, memory(v.Elem())...)
		}
	case reflect.Map:
		if !v.IsNil() {
			piece(1)
			for entry := v.MapRange(); entry.Next(); {
				all = append(all, memory(entry.Value())...)
			}
		}
	case reflect.Slice:
		if v.Cap() > 0 {
			piece(uintptr(v.Cap()) * v.Type().Elem().Size())
		}
		list := v.Slice(0, v.Cap())
		for i := range list.Len() {
			all = append(all, memory(list.Index(i))...)
		}
	}
	return all
}

// wantApart: no two of the things share memory, and none has two lists that do.
func wantApart(t testing.TB, things ...any) int {
	t.Helper()
	var pieces []stretch
	for _, thing := range things {
		pieces = append(pieces, memory(reflect.ValueOf(thing))...)
	}
	slices.SortFunc(pieces, func(a, b stretch) int {
		if a.from < b.from {
			return -1
		}
		return 1
	})
	for n := 1; n < len(pieces); n++ {
		if pieces[n].from < pieces[n-1].to {
			t.Fatalf("P19.6: %s: memory is shared", told(things))
		}
	}
	runtime.KeepAlive(things)
	return len(pieces)
}

// TestNothingShared: between a theory, engines that are made of it, their copies, and all that they answer.
func TestNothingShared(t *testing.T) {
	t.Parallel()
	m := newMaker(214)
	seen := 0
	for range 300 {
		x := exact(m.any())
		e := newEngine(t, x)
		things := []any{x, e, newEngine(t, x)}
		for range 15 {
			c := m.call(x.Lits)
			c.facts = exact(c.facts)
			things = append(things, c.facts, c.do(e).changes)
		}
		other := e.Copy()
		things = append(things, other, other.Copy(), e.Copy(), askAll(e), askAll(e), askAll(other))
		seen += wantApart(t, things...)
	}
	if seen < 20000 {
		t.Errorf("only %d pieces of memory were seen", seen)
	}
}

// TestEnginesAtOneTime: an engine's copies, and engines of one theory, are changed at the same time, and answer as if they were alone; another one is asked and copied by all (the race detector would tell what they share).
func TestEnginesAtOneTime(t *testing.T) {
	m := newMaker(215)
	for range 20 {
		p := newPair(t, m.any())
		for range 10 {
			p.step(t, m.call(p.model.theory.Lits))
		}
		var workers sync.WaitGroup
		for n := range 8 {
			one := p.copied()
			if n%4 == 0 {
				one = newPair(t, p.model.theory)
			}
			calls := newMaker(int64(2150 + n))
			workers.Go(func() {
				for range 30 {
					c := calls.call(one.model.theory.Lits)
					want, _ := one.model.do(t, c)
					if got := c.do(one.engine); !got.is(want) {
						t.Errorf("P19.6, P3: %+v: %+v, want %+v", c, got, want)
					}
				}
				wantState(t, one.engine, one.model.facts, one.model.marks)
				p.wantAll(t)
				p.copied().wantAll(t)
			})
		}
		workers.Wait()
		p.wantAll(t)
	}
}

// TestSameAnswers: engines of the same calls answer the same; nil lists and empty ones are one.
func TestSameAnswers(t *testing.T) {
	t.Parallel()
	m := newMaker(216)
	for range 300 {
		x := m.any()
		one, other := newEngine(t, exact(x)), newEngine(t, roomy(x))
		for range 20 {
			c := m.call(x.Lits)
			bare, full := c, c
			bare.facts, full.facts = exact(c.facts), roomy(c.facts)
			if a, b := bare.do(one), full.do(other); !a.is(b) {
				t.Fatalf("P1: %+v: %+v, with empty lists for nil ones %+v", c, a, b)
			}
			if a, b := askAll(one), askAll(other); !same(a, b) {
				t.Fatalf("P3: %+v, and %+v", a, b)
			}
		}
	}
}

// TestNotMade: a nil engine, one that no New made, and one that New refused.
func TestNotMade(t *testing.T) {
	refused, _ := delta.New(api.Theory{Lits: 1})
	for n, e := range []*delta.Engine{nil, {}, new(delta.Engine), refused} {
		for range 2 {
			for _, lit := range lits(math.MinInt, -1, 0, 1, math.MaxInt) {
				for _, c := range []call{add(lit), drop(lit), set(lit), set(), set(lit, 0), {verb: setting, facts: []int{}}} {
					if got := c.do(e); !got.is(answer{errno: api.ErrMade}) {
						t.Errorf("P19.1: %d: %+v: %+v", n, c, got)
					}
				}
			}
			if a := askAll(e); len(a.Facts)+len(a.Marks)+len(a.Touched) > 0 {
				t.Errorf("P19.2: %d: %+v", n, a)
			}
			if c := e.Copy(); c != nil {
				t.Errorf("P19.2: %d: Copy: %v", n, c)
			}
		}
	}
}

// TestAnyTheory: nothing panics, whatever there is.
func TestAnyTheory(t *testing.T) {
	odd := lits(math.MinInt, -1, 0, 1, 2, 4097, math.MaxInt)
	lists := [][]int{nil, {0}, {1}, {1, 0}, {math.MaxInt, math.MinInt}, odd, upTo(100)}
	made := 0
	for _, many := range odd {
		for _, foes := range lists {
			for _, beats := range lists {
				for _, n := range odd {
					x := api.Theory{
						Lits: many, Foes: [][]int{foes, beats}, Beats: [][]int{beats, foes},
						Rules: []api.Rule{{Kind: api.Arrow(n), Head: n, Body: foes}, {Kind: api.Strict, Head: n, Body: beats}},
					}
					for rules := range 3 {
						x.Rules = x.Rules[:rules:2]
						x.Beats = x.Beats[:rules:2]
						e, _ := delta.New(x)
						if e != nil {
							made++
						}
						for _, lit := range odd {
							add(lit).do(e)
							drop(lit).do(e)
						}
						for _, list := range lists {
							set(list...).do(e)
							askAll(e.Copy())
						}
					}
				}
			}
		}
	}
	if made < 16 {
		t.Errorf("only %d engines were made", made)
	}
}
