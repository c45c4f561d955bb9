package prior_test

import (
	"fmt"
	"slices"
	"strconv"
	"testing"

	"lexprior/api"
	"lexprior/ground"
	"lexprior/prior"
	"lexprior/resolve"
	"lexprior/syntax"
	"lexprior/theory"
)

func parsed(t testing.TB, text string) api.Statute {
	t.Helper()
	s, errno, at := syntax.Parse(text)
	if errno != api.OK {
		t.Fatalf("Parse(%q): %d, %d", text, errno, at)
	}
	return s
}

func grounded(t testing.TB, s api.Statute) api.Ground {
	t.Helper()
	g, errno, place := ground.Ground(s)
	if errno != api.OK {
		t.Fatalf("Ground(%s): %d, %d", told(s), errno, place)
	}
	return g
}

// schema is what counts of one, beside exceptions.
type schema struct {
	rank int
	at   api.Date
}

// law: schemas r0, r1, .., each with a source of its own; in each pair of excepts A is an exception to B. Their heads are all p, since Build asks a ground about heads.
func law(schemas []schema, excepts ...api.Pair) api.Statute {
	s := api.Statute{Preds: []api.PredText{{Name: "p", Sort: api.SortPlain}}}
	for n, one := range schemas {
		name := strconv.Itoa(n)
		s.Sources = append(s.Sources, api.SourceText{Name: "s" + name, Rank: one.rank})
		s.Rules = append(s.Rules, api.RuleText{Name: "r" + name, Source: "s" + name, At: one.at, Arrow: api.Defeasible, Head: api.LitText{Pred: "p"}})
	}
	return excepted(s, excepts...)
}

// excepted: with more exceptions.
func excepted(s api.Statute, excepts ...api.Pair) api.Statute {
	s.Excepts = slices.Clone(s.Excepts)
	for _, e := range excepts {
		s.Excepts = append(s.Excepts, api.Exception{Over: s.Rules[e.A].Name, Under: s.Rules[e.B].Name})
	}
	return s
}

// later: so many schemas of one rank, of which each prevails over those behind it.
func later(many int) api.Statute {
	s := law(make([]schema, many))
	for n := range s.Rules {
		s.Rules[n].At = api.Date(many - n)
		s.Rules[n].Source = "s0"
	}
	s.Sources = s.Sources[:1]
	return s
}

// heads: a ground with a rule for each of these literals, of the schemas 0, 1, ..; all literals that stand together in a list of foes are foes.
func heads(lits []int, foes ...[]int) api.Ground {
	g := api.Ground{Schema: upTo(len(lits))}
	for _, list := range append(foes, lits) {
		for _, lit := range list {
			g.Theory.Lits = max(g.Theory.Lits, lit+1)
		}
	}
	g.Theory.Foes = make([][]int, g.Theory.Lits)
	for _, lit := range lits {
		g.Theory.Rules = append(g.Theory.Rules, api.Rule{Kind: api.Defeasible, Head: lit})
	}
	for _, list := range foes {
		enemies(&g.Theory, list...)
	}
	return g
}

// inConflict: as many rules of the schemas 0, 1, .., of which each has a head of its own, and all are foes.
func inConflict(many int) api.Ground {
	return heads(upTo(many), upTo(many))
}

// enemies: these literals become foes of each other.
func enemies(t *api.Theory, lits ...int) {
	for _, a := range lits {
		for _, b := range lits {
			if place, there := slices.BinarySearch(t.Foes[a], b); a != b && !there {
				t.Foes[a] = slices.Insert(t.Foes[a], place, b)
			}
		}
	}
}

// upTo: 0 to n - 1.
func upTo(n int) []int {
	var list []int
	for i := range n {
		list = append(list, i)
	}
	return list
}

// told: as much of it as a reader wants to see.
func told(thing any) string {
	return fmt.Sprintf("%.900s", fmt.Sprintf("%+v", thing))
}

func wantTaken(t testing.TB, s api.Statute) {
	t.Helper()
	if errno, item := resolve.Check(s); errno != api.OK {
		t.Fatalf("resolve.Check(%s): %d, %d", told(s), errno, item)
	}
}

func wantPrevails(t testing.TB, s api.Statute, a, b int, want bool, errno api.Errno) {
	t.Helper()
	if got, gotErrno := prior.Prevails(s, a, b); got != want || gotErrno != errno {
		t.Errorf("P13.1: Prevails(%s, %d, %d): %t, %d, want %t, %d", told(s), a, b, got, gotErrno, want, errno)
	}
}

// wantBuilt: the ground with these Beats, else as it was.
func wantBuilt(t testing.TB, s api.Statute, g api.Ground, beats [][]int) {
	t.Helper()
	want := g
	want.Theory.Beats = beats
	got, errno, cycle := prior.Build(s, g)
	if errno != api.OK || len(cycle) > 0 || !same(got, want) {
		t.Errorf("P13.2: Build(%s, %s): %s, %d, %s, want the Beats %s", told(s), told(g), told(got), errno, told(cycle), told(beats))
		return
	}
	if errno, at := theory.Check(got.Theory); errno != api.OK {
		t.Errorf("P13.6: theory.Check(%s): %d, %d", told(got.Theory), errno, at)
	}
}

// wantRefused: with an error that tells nothing.
func wantRefused(t testing.TB, what string, s api.Statute, g api.Ground, errno api.Errno) {
	t.Helper()
	got, gotErrno, cycle := prior.Build(s, g)
	if gotErrno != errno || len(cycle) > 0 || !same(got, api.Ground{}) {
		t.Errorf("P13.2: %s: Build(%s, %s): %s, %d, %s, want %d", what, told(s), told(g), told(got), gotErrno, told(cycle), errno)
	}
}

// wantRound: ErrPriorityCycle, and a cycle of the relation that the model has; it is told.
func wantRound(t testing.TB, s api.Statute, g api.Ground) []int {
	t.Helper()
	got, errno, cycle := prior.Build(s, g)
	if errno != api.ErrPriorityCycle || !same(got, api.Ground{}) || !isCycle(modelBeats(s, g), cycle) {
		t.Errorf("P13.4: Build(%s, %s): %s, %d, %s, want a cycle", told(s), told(g), told(got), errno, told(cycle))
	}
	return cycle
}

// wantCycle: any.
func wantCycle(t testing.TB, beats [][]int) []int {
	t.Helper()
	cycle, there := prior.Cycle(beats)
	if !there || !isCycle(beats, cycle) {
		t.Errorf("P13.3: Cycle(%s): %s, %t, want a cycle", told(beats), told(cycle), there)
	}
	if order, ok := prior.Order(beats); ok || len(order) > 0 {
		t.Errorf("P13.3: Order(%s): %s, %t, though there is a cycle", told(beats), told(order), ok)
	}
	return cycle
}

// wantOrder: and no cycle.
func wantOrder(t testing.TB, beats [][]int, want ...int) {
	t.Helper()
	if cycle, there := prior.Cycle(beats); there || len(cycle) > 0 {
		t.Errorf("P13.3: Cycle(%s): %s, %t, want none", told(beats), told(cycle), there)
	}
	if order, ok := prior.Order(beats); !ok || !slices.Equal(order, want) {
		t.Errorf("P13.3: Order(%s): %s, %t, want %s", told(beats), told(order), ok, told(want))
	}
}

func wantBeats(t testing.TB, x api.Theory, a, b int, want bool) {
	t.Helper()
	if got := prior.Beats(x, a, b); got != want {
		t.Errorf("P13.3: Beats(%s, %d, %d): %t, want %t", told(x), a, b, got, want)
	}
}
