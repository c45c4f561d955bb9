package facts_test

import (
	"math"
	"reflect"
	"runtime"
	"slices"
	"sync"
	"testing"

	"lexprior/api"
	"lexprior/facts"
)

// Asked is what the calls say that change nothing.
type Asked struct {
	Facts   []int
	Numbers []api.Number
	Values  []api.Money
	There   []bool
	Has     []bool
}

// askAll: every call of a store that changes nothing.
func askAll(s *facts.Store, atoms []api.Atom, lits int) Asked {
	a := Asked{Facts: s.Facts(), Numbers: s.Numbers()}
	for _, one := range atoms {
		v, there := s.Value(one)
		a.Values, a.There = append(a.Values, v), append(a.There, there)
	}
	for lit := range lits {
		a.Has = append(a.Has, s.Has(lit))
	}
	return a
}

// relist says of a list which elements a copy of it has in its memory, and how many it shows.
type relist func(list reflect.Value) (reflect.Value, int)

func rebuilt(v reflect.Value, lists relist) reflect.Value {
	other := reflect.New(v.Type()).Elem()
	switch v.Kind() {
	case reflect.Struct:
		for i := range v.NumField() {
			other.Field(i).Set(rebuilt(v.Field(i), lists))
		}
	case reflect.Slice:
		elements, length := lists(v)
		if elements.IsNil() {
			break
		}
		list := reflect.MakeSlice(v.Type(), elements.Len(), elements.Len())
		for i := range elements.Len() {
			list.Index(i).Set(rebuilt(elements.Index(i), lists))
		}
		other.Set(list.Slice(0, length))
	default:
		other.Set(v)
	}
	return other
}

// exact: a copy whose lists have what they show; those of nothing are nil.
func exact[T any](thing T) T {
	return rebuilt(reflect.ValueOf(thing), func(list reflect.Value) (reflect.Value, int) {
		if list.Len() == 0 {
			return reflect.Zero(list.Type()), 0
		}
		return list, list.Len()
	}).Interface().(T)
}

// roomy: a copy whose lists have room behind their end, which is filled with the same things again; none is nil.
func roomy[T any](thing T) T {
	return rebuilt(reflect.ValueOf(thing), func(list reflect.Value) (reflect.Value, int) {
		twice := reflect.MakeSlice(list.Type(), 0, 0)
		return reflect.AppendSlice(reflect.AppendSlice(twice, list), list), list.Len()
	}).Interface().(T)
}

// whole: a copy whose lists show all that is in their memory.
func whole[T any](thing T) T {
	return rebuilt(reflect.ValueOf(thing), func(list reflect.Value) (reflect.Value, int) {
		return list.Slice(0, list.Cap()), list.Cap()
	}).Interface().(T)
}

// same: whether two differ in nothing but that a list is nil or empty.
func same[T any](a, b T) bool {
	return reflect.DeepEqual(exact(a), exact(b))
}

// spoilAll: every number in the lists of a value becomes another, up to the end of their memory.
func spoilAll(v reflect.Value) {
	switch v.Kind() {
	case reflect.Struct:
		for i := range v.NumField() {
			spoilAll(v.Field(i))
		}
	case reflect.Slice:
		list := v.Slice(0, v.Cap())
		for i := range list.Len() {
			spoilAll(list.Index(i))
		}
	case reflect.Int, reflect.Int64:
		v.SetInt(-7)
	case reflect.Bool:
		v.SetBool(!v.Bool())
	}
}

// TestArgumentsStay: as they were handed in, and what stands behind their lists' ends, too.
func TestArgumentsStay(t *testing.T) {
	m := newMaker(191)
	for range 300 {
		g := roomy(m.ground())
		if m.oneIn(4) {
			m.spoil(&g)
		}
		was := whole(g)
		s, _ := facts.New(g)
		for range 40 {
			c := m.call(len(g.Lits))
			c.atom = roomy(c.atom)
			given := whole(c.atom)
			c.do(s)
			s.Value(c.atom)
			if now := whole(c.atom); !reflect.DeepEqual(now, given) {
				t.Fatalf("P18.9: the atom %+v became %+v", given, now)
			}
		}
		askAll(s.Copy(), nil, 9)
		if now := whole(g); !reflect.DeepEqual(now, was) {
			t.Fatalf("P18.9: %+v became %+v", was, now)
		}
		l := roomy([]api.Number{number(m.anyAtom(), 1), number(m.anyAtom(), 2), number(m.anyAtom(), 3)})
		one := roomy(m.guard())
		wasNumbers, wasGuard := whole(l), whole(one)
		facts.Holds(one, l)
		if !reflect.DeepEqual(whole(l), wasNumbers) || !reflect.DeepEqual(whole(one), wasGuard) {
			t.Fatalf("P18.9: Holds made %+v, %+v of %+v, %+v", one, l, wasGuard, wasNumbers)
		}
	}
}

// TestArgumentsAreNotKept: the ground and the atoms become something else behind each call; the store goes on as if they had not.
func TestArgumentsAreNotKept(t *testing.T) {
	m := newMaker(192)
	for range 300 {
		p := m.newPair(t)
		g := roomy(p.model.ground)
		s := newStore(t, g)
		spoilAll(reflect.ValueOf(&g).Elem())
		for range 40 {
			c := m.call(len(p.model.ground.Lits))
			want := p.model.do(c)
			given := c
			given.atom = roomy(c.atom)
			got := given.do(s)
			spoilAll(reflect.ValueOf(&given.atom).Elem())
			if !got.is(want) {
				t.Fatalf("P18.9: %+v: %+v, want %+v", c, got, want)
			}
		}
		wantAll(t, s, p.model)
	}
}

// TestAnswersThatAreChanged: by their caller; the store answers the same anew, and other answers stay.
func TestAnswersThatAreChanged(t *testing.T) {
	m := newMaker(193)
	for range 300 {
		p := m.newPair(t)
		lits, atoms := len(p.model.ground.Lits), p.model.atoms()
		var earlier, wanted []answer
		for range 40 {
			c := m.call(lits)
			want := p.model.do(c)
			got := c.do(p.store)
			earlier, wanted = append(earlier, got), append(wanted, want)
			if !got.is(want) {
				t.Fatalf("P18.9: %+v: %+v, want %+v", c, got, want)
			}
			if m.oneIn(2) { // its lists become something else; those of earlier ones must not
				last := len(earlier) - 1
				spoilAll(reflect.ValueOf(&got.came).Elem())
				spoilAll(reflect.ValueOf(&got.went).Elem())
				earlier, wanted = earlier[:last], wanted[:last]
			}
			before, other := exact(askAll(p.store, atoms, lits)), askAll(p.store, atoms, lits)
			changed := askAll(p.store, atoms, lits)
			spoilAll(reflect.ValueOf(&changed).Elem())
			if now := askAll(p.store, atoms, lits); !same(now, before) || !same(other, before) {
				t.Fatalf("P18.9: %+v and %+v, was %+v", now, other, before)
			}
		}
		for n := range earlier {
			if !earlier[n].is(wanted[n]) {
				t.Fatalf("P18.9: an earlier answer became %+v, was %+v", earlier[n], wanted[n])
			}
		}
		wantAll(t, p.store, p.model)
	}
}

// TestCopiesApart: a store and its copies go their own ways; a copy of a copy, too.
func TestCopiesApart(t *testing.T) {
	s := newStore(t, house())
	wantAdd(t, s, 0, api.OK)
	wantPut(t, s, atom(income, ann), 500, []int{3}, nil, api.OK)
	c := s.Copy()
	wantFacts(t, c, 0, 3)
	wantNumbers(t, c, number(atom(income, ann), 500))
	wantAdd(t, c, 0, api.ErrFact)
	wantAdd(t, c, 2, api.OK)
	wantRemove(t, c, 0, api.OK)
	wantPut(t, c, atom(income, ann), 10000, nil, []int{3}, api.OK)
	wantPut(t, c, atom(rent, ann), 1, []int{1}, nil, api.OK)
	wantFacts(t, c, 1, 2)
	wantFacts(t, s, 0, 3)
	wantNumbers(t, s, number(atom(income, ann), 500))
	again := c.Copy()
	wantTake(t, c, atom(income, ann), nil, []int{1}, api.OK)
	wantFacts(t, again, 1, 2)
	wantTake(t, s, atom(income, ann), nil, []int{3}, api.OK)
	wantTake(t, s, atom(income, ann), nil, nil, api.ErrFact)
	wantNumbers(t, again, number(atom(income, ann), 10000), number(atom(rent, ann), 1))
	wantNumbers(t, c, number(atom(rent, ann), 1))
}

// stretch is a piece of memory.
type stretch struct{ from, to uintptr }

// memory: of a value all that it reaches: lists up to their capacity, maps, what pointers point to.
func memory(v reflect.Value) []stretch {
	var all []stretch
	piece := func(size uintptr) {
		all = append(all, stretch{v.Pointer(), v.Pointer() + size})
	}
	switch v.Kind() {
	case reflect.Struct:
		for i := range v.NumField() {
			all = append(all, memory(v.Field(i))...)
		}
	case reflect.Pointer:
		if !v.IsNil() {
			piece(v.Type().Elem().Size())
			all = append(all, memory(v.Elem())...)
		}
	case reflect.Map:
		if !v.IsNil() {
			piece(1)
			for entry := v.MapRange(); entry.Next(); {
				all = append(all, memory(entry.Value())...)
			}
		}
	case reflect.Slice:
		if v.Cap() > 0 {
			piece(uintptr(v.Cap()) * v.Type().Elem().Size())
		}
		list := v.Slice(0, v.Cap())
		for i := range list.Len() {
			all = append(all, memory(list.Index(i))...)
		}
	}
	return all
}

// wantApart: no two of the things share memory, and none has two lists that do.
func wantApart(t testing.TB, things ...any) {
	t.Helper()
	var pieces []stretch
	for _, thing := range things {
		pieces = append(pieces, memory(reflect.ValueOf(thing))...)
	}
	slices.SortFunc(pieces, func(a, b stretch) int {
		if a.from < b.from {
			return -1
		}
		return 1
	})
	for n := 1; n < len(pieces); n++ {
		if pieces[n].from < pieces[n-1].to {
			t.Fatalf("P18.9: %s: memory is shared", told(things))
		}
	}
	runtime.KeepAlive(things)
}

// TestNothingShared: between a ground, stores that are made of it, their copies, and all that they answer.
func TestNothingShared(t *testing.T) {
	m := newMaker(194)
	seen := 0
	for range 300 {
		g := exact(m.ground())
		s := newStore(t, g)
		things := []any{g, s, newStore(t, g)}
		for range 20 {
			c := m.call(len(g.Lits))
			c.atom = exact(c.atom)
			a := c.do(s)
			things = append(things, c.atom, a.came, a.went)
		}
		other := s.Copy()
		things = append(things, other, other.Copy(), s.Copy(), s.Facts(), s.Facts(), s.Numbers(), s.Numbers(), other.Facts(), other.Numbers())
		wantApart(t, things...)
		seen += len(memory(reflect.ValueOf(other)))
	}
	if seen < 3000 {
		t.Errorf("only %d pieces of memory were seen", seen)
	}
}

// TestStoresAtOneTime: a store's copies, and stores of one ground, are changed at the same time, and answer as if they were alone (the race detector would tell what they share).
func TestStoresAtOneTime(t *testing.T) {
	m := newMaker(195)
	for range 20 {
		p := m.newPair(t)
		for range 20 {
			p.step(t, m.call(len(p.model.ground.Lits)))
		}
		fresh := &model{ground: p.model.ground}
		var workers sync.WaitGroup
		for n := range 8 {
			one := pair{p.store.Copy(), p.model.copied()}
			if n%4 == 0 {
				one = pair{newStore(t, p.model.ground), fresh.copied()}
			}
			calls := newMaker(int64(1950 + n))
			workers.Go(func() {
				for range 60 {
					c := calls.call(len(one.model.ground.Lits))
					if got, want := c.do(one.store), one.model.do(c); !got.is(want) {
						t.Errorf("P18.9, P3: %+v: %+v, want %+v", c, got, want)
					}
				}
				wantAll(t, one.store, one.model)
				wantAll(t, one.store.Copy(), one.model)
			})
		}
		workers.Wait()
		wantAll(t, p.store, p.model)
	}
}

// TestSameAnswers: stores of the same calls answer the same; nil lists and empty ones are one.
func TestSameAnswers(t *testing.T) {
	m := newMaker(196)
	for range 300 {
		g := m.ground()
		one, other := newStore(t, exact(g)), newStore(t, roomy(g))
		atoms := (&model{ground: g}).atoms()
		for range 30 {
			c := m.call(len(g.Lits))
			bare, full := c, c
			bare.atom, full.atom = exact(c.atom), roomy(c.atom)
			if a, b := bare.do(one), full.do(other); !a.is(b) {
				t.Fatalf("P1: %+v: %+v, with empty lists for nil ones %+v", c, a, b)
			}
			if a, b := askAll(one, exact(atoms), len(g.Lits)), askAll(other, roomy(atoms), len(g.Lits)); !same(a, b) {
				t.Fatalf("P1: %+v, with empty lists for nil ones %+v", a, b)
			}
		}
	}
}

// TestNotMade: a nil store, one that no call made, and one that New refused.
func TestNotMade(t *testing.T) {
	refused, _ := facts.New(api.Ground{Theory: plain(1)})
	for _, s := range []*facts.Store{nil, {}, new(facts.Store), refused} {
		for range 2 {
			for _, lit := range []int{math.MinInt, -1, 0, 1, math.MaxInt} {
				wantAdd(t, s, lit, api.ErrMade)
				wantRemove(t, s, lit, api.ErrMade)
				if s.Has(lit) {
					t.Errorf("P18.3: Has(%d) of a store that no call made", lit)
				}
			}
			for _, a := range []api.Atom{{}, atom(income, ann), atom(-1), worth(atom(rate), 5), atom(0, 0, 0, 0, 0, 0)} {
				for _, v := range []api.Money{0, 1, most + 1, math.MinInt64} {
					wantPut(t, s, a, v, nil, nil, api.ErrMade)
				}
				wantTake(t, s, a, nil, nil, api.ErrMade)
				wantValue(t, s, a, 0, false)
			}
			wantFacts(t, s)
			wantNumbers(t, s)
			if c := s.Copy(); c != nil {
				t.Errorf("P18.3: Copy of a store that no call made: %v", c)
			}
		}
	}
}

// TestEmptyStore: one that New made of nothing is made.
func TestEmptyStore(t *testing.T) {
	for _, s := range []*facts.Store{newStore(t, api.Ground{}), newStore(t, api.Ground{}).Copy()} {
		wantAdd(t, s, 0, api.ErrLit)
		wantRemove(t, s, 0, api.ErrLit)
		wantPut(t, s, atom(income), 1, nil, nil, api.ErrGuard)
		wantTake(t, s, atom(income), nil, nil, api.ErrGuard)
		wantFacts(t, s)
		wantNumbers(t, s)
	}
}

// TestAnyGround: nothing panics, whatever there is.
func TestAnyGround(t *testing.T) {
	odd := []int{math.MinInt, -1, 0, 1, 2, 4097, math.MaxInt}
	for _, lits := range odd {
		for _, n := range odd {
			for _, list := range [][]int{nil, {0}, odd, make([]int, 100)} {
				g := api.Ground{
					Lits:   []api.Lit{{Guard: n, Atom: atom(n, list...)}, {Guard: lits}},
					Guards: []api.Guard{{Terms: []api.Term{times(int64(n), worth(atom(lits, list...), api.Money(n)))}, Const: api.Money(n), Op: api.Op(n)}, {Op: api.Op(n)}},
					Schema: list,
					Theory: api.Theory{Lits: lits, Foes: [][]int{list, nil}, Rules: []api.Rule{{Kind: 1, Head: n, Body: list}}, Beats: [][]int{list}},
				}
				for many := range 3 {
					part := g
					part.Lits, part.Guards = g.Lits[:many], g.Guards[:many]
					if modelMay(part) {
						newStore(t, part)
					} else {
						wantRefused(t, "any ground", part)
					}
				}
				facts.Holds(g.Guards[0], []api.Number{number(atom(lits, list...), api.Money(n))})
			}
		}
	}
}
