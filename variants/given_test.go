package variants_test

import (
	"fmt"
	"slices"
	"strconv"
	"strings"
	"testing"

	"lexprior/api"
	"lexprior/fast"
	"lexprior/naive"
	"lexprior/variants"
)

// plain: a theory of so many literals and these rules, without foes.
func plain(lits int, rules ...api.Rule) api.Theory {
	return api.Theory{Lits: lits, Foes: make([][]int, lits), Rules: rules, Beats: make([][]int, len(rules))}
}

// insert: a number into a list that rises, once.
func insert(list *[]int, n int) {
	if place, there := slices.BinarySearch(*list, n); !there {
		*list = slices.Insert(*list, place, n)
	}
}

// enemies: these literals become foes of each other.
func enemies(t *api.Theory, lits ...int) {
	for _, a := range lits {
		for _, b := range lits {
			if a != b {
				insert(&t.Foes[a], b)
			}
		}
	}
}

// numbers: of a text, with blanks between them.
func numbers(text string) []int {
	var list []int
	for _, field := range strings.Fields(text) {
		n, err := strconv.Atoi(field)
		if err != nil {
			panic(err)
		}
		list = append(list, n)
	}
	return list
}

// from: a theory as a text says it: how many literals; then rules (-> strict, => defeasible, ~> defeaters), foes of each other (#), and which rules beat which (>).
func from(text string) api.Theory {
	parts := strings.Split(text, ";")
	x := plain(numbers(parts[0])[0])
	for _, part := range parts[1:] {
		for arrow, kind := range map[string]api.Arrow{"->": api.Strict, "=>": api.Defeasible, "~>": api.Defeater} {
			if body, head, is := strings.Cut(part, arrow); is {
				x.Rules = append(x.Rules, api.Rule{Kind: kind, Head: numbers(head)[0], Body: numbers(body)})
			}
		}
	}
	x.Beats = make([][]int, len(x.Rules))
	for _, part := range parts[1:] {
		switch {
		case strings.Contains(part, "#"):
			enemies(&x, numbers(strings.ReplaceAll(part, "#", " "))...)
		case strings.Contains(part, " > "):
			over, under, _ := strings.Cut(part, ">")
			insert(&x.Beats[numbers(over)[0]], numbers(under)[0])
		}
	}
	return x
}

// All that a literal can come to have; + and - are those of the logic that is asked.
const (
	held  = "+D +"
	won   = "-D +"
	lost  = "-D -"
	open  = "-D"
	loose = "+"
	none  = ""
)

// marks: of each literal, as texts say them.
func marks(texts ...string) []api.Marks {
	var list []api.Marks
	for _, text := range texts {
		var m api.Marks
		for _, field := range strings.Fields(text) {
			m |= map[string]api.Marks{"+D": 1, "-D": 2, "+": 4, "-": 8}[field]
		}
		list = append(list, m)
	}
	return list
}

// upTo: 0 to n - 1.
func upTo(n int) []int {
	var list []int
	for i := range n {
		list = append(list, i)
	}
	return list
}

// lits: a list that is easily read.
func lits(list ...int) []int {
	return list
}

// told: as much of it as a reader wants to see.
func told(thing any) string {
	return fmt.Sprintf("%.600s", fmt.Sprintf("%+v", thing))
}

// tally counts what a test saw, so that it can tell that it saw enough of it.
type tally map[string]int

func (y tally) want(t testing.TB, least int, all ...string) {
	t.Helper()
	for _, what := range all {
		if y[what] < least {
			t.Errorf("only %d times: %s", y[what], what)
		}
	}
}

// answered is what the logics say of a theory and facts.
type answered struct {
	propagated, defeasible, supported []api.Marks
}

// asked: by this package's calls, and by the engine.
func asked(t testing.TB, x api.Theory, facts []int) answered {
	t.Helper()
	propagated, errno := variants.Propagated(x, facts)
	if errno != api.OK || len(propagated) != x.Lits {
		t.Fatalf("P17.1: Propagated(%s, %s): %s, %d", told(x), told(facts), told(propagated), errno)
	}
	supported, errno := variants.Supported(x, facts)
	if errno != api.OK || len(supported) != x.Lits {
		t.Fatalf("P17.1: Supported(%s, %s): %s, %d", told(x), told(facts), told(supported), errno)
	}
	defeasible, errno := fast.Run(x, facts)
	if errno != api.OK || len(defeasible) != x.Lits {
		t.Fatalf("Run(%s, %s): %s, %d", told(x), told(facts), told(defeasible), errno)
	}
	return answered{propagated, defeasible, supported}
}

// wantMarks: by both calls.
func wantMarks(t testing.TB, x api.Theory, facts []int, propagated, supported []api.Marks) {
	t.Helper()
	if got, errno := variants.Propagated(x, facts); errno != api.OK || !slices.Equal(got, propagated) {
		t.Errorf("P17.1: Propagated(%s, %s): %s, %d, want %s", told(x), told(facts), told(got), errno, told(propagated))
	}
	if got, errno := variants.Supported(x, facts); errno != api.OK || !slices.Equal(got, supported) {
		t.Errorf("P17.1: Supported(%s, %s): %s, %d, want %s", told(x), told(facts), told(got), errno, told(supported))
	}
}

// wantLogics: and the model says so, too; and all that follows holds.
func wantLogics(t testing.TB, x api.Theory, facts []int, propagated, supported []api.Marks) {
	t.Helper()
	wantMarks(t, x, facts, propagated, supported)
	m := solved(x, facts, tally{})
	if !slices.Equal(m.propagated(), propagated) || !slices.Equal(m.supported(), supported) {
		t.Errorf("the model of %s and %s: %s, %s, want %s, %s", told(x), told(facts), told(m.propagated()), told(m.supported()), told(propagated), told(supported))
	}
	wantTheorems(t, x, facts)
}

// wantAlike: all three logics say this.
func wantAlike(t testing.TB, x api.Theory, facts []int, want []api.Marks) {
	t.Helper()
	wantLogics(t, x, facts, want, want)
	wantDefeasible(t, x, facts, want)
}

// wantDefeasible: what the engines say, beside which the variants are told.
func wantDefeasible(t testing.TB, x api.Theory, facts []int, want []api.Marks) {
	t.Helper()
	if got, errno := naive.Solve(x, facts); errno != api.OK || !slices.Equal(got, want) {
		t.Errorf("Solve(%s, %s): %s, %d, want %s", told(x), told(facts), told(got), errno, told(want))
	}
}

// wantRefused: by both calls, for this; beside it there is nothing.
func wantRefused(t testing.TB, x api.Theory, facts []int, errno api.Errno) {
	t.Helper()
	if got, gotErrno := variants.Propagated(x, facts); gotErrno != errno || len(got) > 0 {
		t.Errorf("P17.1: Propagated(%s, %s): %s, %d, want nothing, %d", told(x), told(facts), told(got), gotErrno, errno)
	}
	if got, gotErrno := variants.Supported(x, facts); gotErrno != errno || len(got) > 0 {
		t.Errorf("P17.1: Supported(%s, %s): %s, %d, want nothing, %d", told(x), told(facts), told(got), gotErrno, errno)
	}
}
