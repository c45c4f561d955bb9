package delta_test

import (
	"fmt"
	"slices"
	"strconv"
	"strings"
	"testing"

	"lexprior/api"
	"lexprior/delta"
)

// plain: a theory of so many literals and these rules, without foes.
func plain(lits int, rules ...api.Rule) api.Theory {
	return api.Theory{Lits: lits, Foes: make([][]int, lits), Rules: rules, Beats: make([][]int, len(rules))}
}

// rule: of that kind.
func rule(kind api.Arrow, head int, body ...int) api.Rule {
	return api.Rule{Kind: kind, Head: head, Body: body}
}

// insert: a number into a list that rises, once.
func insert(list *[]int, n int) {
	if place, there := slices.BinarySearch(*list, n); !there {
		*list = slices.Insert(*list, place, n)
	}
}

// enemies: these literals become foes of each other.
func enemies(t *api.Theory, lits ...int) {
	for _, a := range lits {
		for _, b := range lits {
			if a != b {
				insert(&t.Foes[a], b)
			}
		}
	}
}

// numbers: of a text, with blanks between them.
func numbers(text string) []int {
	var list []int
	for _, field := range strings.Fields(text) {
		n, err := strconv.Atoi(field)
		if err != nil {
			panic(err)
		}
		list = append(list, n)
	}
	return list
}

// from: a theory as a text says it: how many literals; then rules (-> strict, => defeasible, ~> defeaters), foes of each other (#), and which rules beat which (>).
func from(text string) api.Theory {
	parts := strings.Split(text, ";")
	x := plain(numbers(parts[0])[0])
	for _, part := range parts[1:] {
		for arrow, kind := range map[string]api.Arrow{"->": api.Strict, "=>": api.Defeasible, "~>": api.Defeater} {
			if body, head, is := strings.Cut(part, arrow); is {
				x.Rules = append(x.Rules, rule(kind, numbers(head)[0], numbers(body)...))
			}
		}
	}
	x.Beats = make([][]int, len(x.Rules))
	for _, part := range parts[1:] {
		switch {
		case strings.Contains(part, "#"):
			enemies(&x, numbers(strings.ReplaceAll(part, "#", " "))...)
		case strings.Contains(part, " > "):
			over, under, _ := strings.Cut(part, ">")
			insert(&x.Beats[numbers(over)[0]], numbers(under)[0])
		}
	}
	return x
}

// marks: of each literal, as texts say them.
func marks(texts ...string) []api.Marks {
	var list []api.Marks
	for _, text := range texts {
		var m api.Marks
		for _, field := range strings.Fields(text) {
			m |= map[string]api.Marks{"+D": 1, "-D": 2, "+d": 4, "-d": 8}[field]
		}
		list = append(list, m)
	}
	return list
}

// All that a literal can come to have.
const (
	held  = "+D +d"
	won   = "-D +d"
	lost  = "-D -d"
	open  = "-D"
	loose = "+d"
	none  = ""
)

// many: so many literals with the same marks.
func many(n int, said string) []api.Marks {
	return slices.Repeat(marks(said), n)
}

// upTo: 0 to n - 1.
func upTo(n int) []int {
	var list []int
	for i := range n {
		list = append(list, i)
	}
	return list
}

// lits: a list that is easily read.
func lits(list ...int) []int {
	return list
}

// told: as much of it as a reader wants to see.
func told(thing any) string {
	return fmt.Sprintf("%.600s", fmt.Sprintf("%+v", thing))
}

// tally counts what a test saw, so that it can tell that it saw enough of it.
type tally map[string]int

func (y tally) want(t testing.TB, least int, all ...string) {
	t.Helper()
	for _, what := range all {
		if y[what] < least {
			t.Errorf("only %d times: %s", y[what], what)
		}
	}
}

// differ: the literals whose marks are unlike, with both.
func differ(was, now []api.Marks) []api.Change {
	var list []api.Change
	for lit := range now {
		if was[lit] != now[lit] {
			list = append(list, api.Change{Lit: lit, Was: was[lit], Now: now[lit]})
		}
	}
	return list
}

func newEngine(t testing.TB, x api.Theory) *delta.Engine {
	t.Helper()
	e, errno := delta.New(x)
	if errno != api.OK || e == nil {
		t.Fatalf("P19.1: New(%s): %v, %d", told(x), e, errno)
	}
	return e
}

func wantNewRefused(t testing.TB, what string, x api.Theory, errno api.Errno) {
	t.Helper()
	if e, got := delta.New(x); got != errno || e != nil {
		t.Errorf("P19.1: %s: New(%s): %v, %d, want nil, %d", what, told(x), e, got, errno)
	}
}

// wantState: the facts and marks that there are now.
func wantState(t testing.TB, e *delta.Engine, facts []int, want []api.Marks) {
	t.Helper()
	if got := e.Facts(); !slices.Equal(got, facts) {
		t.Errorf("P19.2: Facts: %s, want %s", told(got), told(facts))
	}
	if got := e.Marks(); !slices.Equal(got, want) {
		t.Errorf("P19.2: Marks: %s, want %s", told(got), told(want))
	}
}

func wantTouched(t testing.TB, e *delta.Engine, want ...int) {
	t.Helper()
	if got := e.Touched(); !slices.Equal(got, want) {
		t.Errorf("P19.2: Touched: %s, want %s", told(got), told(want))
	}
}

// verb is what a call asks for.
type verb int

const (
	adding verb = iota
	dropping
	setting
)

// call is one that changes an engine.
type call struct {
	verb  verb
	lit   int
	facts []int
}

func add(lit int) call {
	return call{verb: adding, lit: lit}
}

func drop(lit int) call {
	return call{verb: dropping, lit: lit}
}

func set(facts ...int) call {
	return call{verb: setting, facts: facts}
}

// answer is what such a call says.
type answer struct {
	changes []api.Change
	errno   api.Errno
}

func (a answer) is(other answer) bool {
	return slices.Equal(a.changes, other.changes) && a.errno == other.errno
}

func (c call) do(e *delta.Engine) answer {
	var a answer
	switch c.verb {
	case adding:
		a.changes, a.errno = e.Add(c.lit)
	case dropping:
		a.changes, a.errno = e.Drop(c.lit)
	default:
		a.changes, a.errno = e.Set(c.facts)
	}
	return a
}

// wantDone: a call that is OK; behind it there are these facts and marks, and it tells just what changed.
func wantDone(t testing.TB, e *delta.Engine, c call, facts []int, want []api.Marks) {
	t.Helper()
	was := e.Marks()
	if got := c.do(e); got.errno != api.OK || !slices.Equal(got.changes, differ(was, want)) {
		t.Errorf("P19.1: %+v: %s, want %s", c, told(got), told(differ(was, want)))
	}
	wantState(t, e, facts, want)
}

// wantRefused: a call answers the error and nothing else, and all is as it was.
func wantRefused(t testing.TB, e *delta.Engine, c call, errno api.Errno) {
	t.Helper()
	facts, said, touched := e.Facts(), e.Marks(), e.Touched()
	if got := c.do(e); got.errno != errno || len(got.changes) > 0 {
		t.Errorf("P19.1: %+v: %s, want %d", c, told(got), errno)
	}
	wantState(t, e, facts, said)
	wantTouched(t, e, touched...)
}
