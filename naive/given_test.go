package naive_test

import (
	"fmt"
	"slices"
	"strconv"
	"strings"
	"testing"

	"lexprior/api"
	"lexprior/naive"
)

var tags = []api.Tag{api.PlusDelta, api.MinusDelta, api.PlusPartial, api.MinusPartial}

// plain: a theory of so many literals and these rules, without foes.
func plain(lits int, rules ...api.Rule) api.Theory {
	return api.Theory{Lits: lits, Foes: make([][]int, lits), Rules: rules, Beats: make([][]int, len(rules))}
}

// insert: a number into a list that rises, once.
func insert(list *[]int, n int) {
	if place, there := slices.BinarySearch(*list, n); !there {
		*list = slices.Insert(*list, place, n)
	}
}

// enemies: these literals become foes of each other.
func enemies(t *api.Theory, lits ...int) {
	for _, a := range lits {
		for _, b := range lits {
			if a != b {
				insert(&t.Foes[a], b)
			}
		}
	}
}

// numbers: of a text, with blanks between them.
func numbers(text string) []int {
	var list []int
	for _, field := range strings.Fields(text) {
		n, err := strconv.Atoi(field)
		if err != nil {
			panic(err)
		}
		list = append(list, n)
	}
	return list
}

// from: a theory as a text says it: how many literals; then rules (-> strict, => defeasible, ~> defeaters), foes of each other (#), and which rules beat which (>).
func from(text string) api.Theory {
	parts := strings.Split(text, ";")
	x := plain(numbers(parts[0])[0])
	for _, part := range parts[1:] {
		for arrow, kind := range map[string]api.Arrow{"->": api.Strict, "=>": api.Defeasible, "~>": api.Defeater} {
			if body, head, is := strings.Cut(part, arrow); is {
				x.Rules = append(x.Rules, api.Rule{Kind: kind, Head: numbers(head)[0], Body: numbers(body)})
			}
		}
	}
	x.Beats = make([][]int, len(x.Rules))
	for _, part := range parts[1:] {
		switch {
		case strings.Contains(part, "#"):
			enemies(&x, numbers(strings.ReplaceAll(part, "#", " "))...)
		case strings.Contains(part, " > "):
			over, under, _ := strings.Cut(part, ">")
			insert(&x.Beats[numbers(over)[0]], numbers(under)[0])
		}
	}
	return x
}

// marks: of each literal, as texts say them; ? is all bits that no tag has.
func marks(texts ...string) []api.Marks {
	var list []api.Marks
	for _, text := range texts {
		var m api.Marks
		for _, field := range strings.Fields(text) {
			m |= map[string]api.Marks{"+D": 1, "-D": 2, "+d": 4, "-d": 8, "?": 0xF0}[field]
		}
		list = append(list, m)
	}
	return list
}

// Those that mark lists of rounds mostly have.
const (
	held = "+D +d"
	won  = "-D +d"
	lost = "-D -d"
	open = "-D"
	none = ""
)

// upTo: 0 to n - 1.
func upTo(n int) []int {
	var list []int
	for i := range n {
		list = append(list, i)
	}
	return list
}

// lits: a list that is easily read.
func lits(list ...int) []int {
	return list
}

// told: as much of it as a reader wants to see.
func told(thing any) string {
	return fmt.Sprintf("%.600s", fmt.Sprintf("%+v", thing))
}

func wantHolds(t testing.TB, x api.Theory, facts []int, m []api.Marks, tag api.Tag, q int, want bool) {
	t.Helper()
	if got, errno := naive.Holds(x, facts, m, tag, q); errno != api.OK || got != want {
		t.Errorf("P15.2: Holds(%s, %s, %s, %d, %d): %t, %d, want %t", told(x), told(facts), told(m), tag, q, got, errno, want)
	}
}

func wantRound(t testing.TB, x api.Theory, facts []int, m, want []api.Marks) {
	t.Helper()
	if got, errno := naive.Round(x, facts, m); errno != api.OK || !slices.Equal(got, want) {
		t.Errorf("P15.2: Round(%s, %s, %s): %s, %d, want %s", told(x), told(facts), told(m), told(got), errno, told(want))
	}
}

// wantSolved: the list that rounds end with, and how many there are.
func wantSolved(t testing.TB, x api.Theory, facts []int, rounds int, want []api.Marks) {
	t.Helper()
	if got, errno := naive.Solve(x, facts); errno != api.OK || !slices.Equal(got, want) {
		t.Errorf("P15.2: Solve(%s, %s): %s, %d, want %s", told(x), told(facts), told(got), errno, told(want))
	}
	if got, errno := naive.Rounds(x, facts); errno != api.OK || got != rounds {
		t.Errorf("P15.2: Rounds(%s, %s): %d, %d, want %d", told(x), told(facts), got, errno, rounds)
	}
}

// wantRefused: by Rounds and Solve, for this; beside it there is nothing.
func wantRefused(t testing.TB, x api.Theory, facts []int, errno api.Errno) {
	t.Helper()
	if got, gotErrno := naive.Rounds(x, facts); gotErrno != errno || got != 0 {
		t.Errorf("P15.1: Rounds(%s, %s): %d, %d, want 0, %d", told(x), told(facts), got, gotErrno, errno)
	}
	if got, gotErrno := naive.Solve(x, facts); gotErrno != errno || len(got) > 0 {
		t.Errorf("P15.1: Solve(%s, %s): %s, %d, want nothing, %d", told(x), told(facts), told(got), gotErrno, errno)
	}
}

func wantHoldsRefused(t testing.TB, x api.Theory, facts []int, m []api.Marks, tag api.Tag, q int, errno api.Errno) {
	t.Helper()
	if got, gotErrno := naive.Holds(x, facts, m, tag, q); gotErrno != errno || got {
		t.Errorf("P15.1: Holds(%s, %s, %s, %d, %d): %t, %d, want false, %d", told(x), told(facts), told(m), tag, q, got, gotErrno, errno)
	}
}

func wantRoundRefused(t testing.TB, x api.Theory, facts []int, m []api.Marks, errno api.Errno) {
	t.Helper()
	if got, gotErrno := naive.Round(x, facts, m); gotErrno != errno || len(got) > 0 {
		t.Errorf("P15.1: Round(%s, %s, %s): %s, %d, want nothing, %d", told(x), told(facts), told(m), told(got), gotErrno, errno)
	}
}
