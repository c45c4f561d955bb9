package strict_test

import (
	"fmt"
	"slices"
	"testing"

	"lexprior/api"
	"lexprior/strict"
)

// rule: a strict one.
func rule(head int, body ...int) api.Rule {
	return api.Rule{Kind: api.Strict, Head: head, Body: body}
}

// weak: one that is not strict.
func weak(kind api.Arrow, head int, body ...int) api.Rule {
	return api.Rule{Kind: kind, Head: head, Body: body}
}

// plain: a theory of so many literals and these rules, without foes.
func plain(lits int, rules ...api.Rule) api.Theory {
	return api.Theory{Lits: lits, Foes: make([][]int, lits), Rules: rules, Beats: make([][]int, len(rules))}
}

// enemies: these literals become foes of each other.
func enemies(t *api.Theory, lits ...int) {
	for _, a := range lits {
		for _, b := range lits {
			if place, there := slices.BinarySearch(t.Foes[a], b); a != b && !there {
				t.Foes[a] = slices.Insert(t.Foes[a], place, b)
			}
		}
	}
}

// upTo: 0 to n - 1.
func upTo(n int) []int {
	var list []int
	for i := range n {
		list = append(list, i)
	}
	return list
}

// lits: a list that is easily read.
func lits(list ...int) []int {
	return list
}

// told: as much of it as a reader wants to see.
func told(thing any) string {
	return fmt.Sprintf("%.600s", fmt.Sprintf("%+v", thing))
}

// wantTags: of Plus, Minus and Neither.
func wantTags(t testing.TB, x api.Theory, facts, plus, minus, neither []int) {
	t.Helper()
	for _, one := range []struct {
		name string
		call func(api.Theory, []int) ([]int, api.Errno)
		want []int
	}{{"Plus", strict.Plus, plus}, {"Minus", strict.Minus, minus}, {"Neither", strict.Neither, neither}} {
		if got, errno := one.call(x, facts); errno != api.OK || !slices.Equal(got, one.want) {
			t.Errorf("P14.1: %s(%s, %s): %s, %d, want %s", one.name, told(x), told(facts), told(got), errno, told(one.want))
		}
	}
}

func wantHeights(t testing.TB, x api.Theory, facts, want []int) {
	t.Helper()
	if got, errno := strict.Heights(x, facts); errno != api.OK || !slices.Equal(got, want) {
		t.Errorf("P14.2: Heights(%s, %s): %s, %d, want %s", told(x), told(facts), told(got), errno, told(want))
	}
}

func wantLoop(t testing.TB, x api.Theory, facts []int, lit int, want []int, errno api.Errno) {
	t.Helper()
	if got, gotErrno := strict.Loop(x, facts, lit); gotErrno != errno || !slices.Equal(got, want) {
		t.Errorf("P14.3: Loop(%s, %s, %d): %s, %d, want %s, %d", told(x), told(facts), lit, told(got), gotErrno, told(want), errno)
	}
}

func wantClash(t testing.TB, x api.Theory, facts []int, want ...api.Pair) {
	t.Helper()
	if got, errno := strict.Clash(x, facts); errno != api.OK || !slices.Equal(got, want) {
		t.Errorf("P14.4: Clash(%s, %s): %s, %d, want %s", told(x), told(facts), told(got), errno, told(want))
	}
}

func wantLeast(t testing.TB, x api.Theory, facts []int, lit int, want []int, errno api.Errno) {
	t.Helper()
	if got, gotErrno := strict.Least(x, facts, lit); gotErrno != errno || !slices.Equal(got, want) {
		t.Errorf("P14.5: Least(%s, %s, %d): %s, %d, want %s, %d", told(x), told(facts), lit, told(got), gotErrno, told(want), errno)
	}
}

// wantRefused: by each call that asks of no literal, for this; beside it there is nothing.
func wantRefused(t testing.TB, x api.Theory, facts []int, errno api.Errno) {
	t.Helper()
	for _, one := range []struct {
		name string
		call func(api.Theory, []int) ([]int, api.Errno)
	}{{"Plus", strict.Plus}, {"Minus", strict.Minus}, {"Neither", strict.Neither}, {"Heights", strict.Heights}} {
		if got, gotErrno := one.call(x, facts); gotErrno != errno || len(got) > 0 {
			t.Errorf("P14.1: %s(%s, %s): %s, %d, want nothing, %d", one.name, told(x), told(facts), told(got), gotErrno, errno)
		}
	}
	if got, gotErrno := strict.Clash(x, facts); gotErrno != errno || len(got) > 0 {
		t.Errorf("P14.1: Clash(%s, %s): %s, %d, want nothing, %d", told(x), told(facts), told(got), gotErrno, errno)
	}
}

// wantLitRefused: by each call that asks of a literal.
func wantLitRefused(t testing.TB, x api.Theory, facts []int, lit int, errno api.Errno) {
	t.Helper()
	wantLoop(t, x, facts, lit, nil, errno)
	wantLeast(t, x, facts, lit, nil, errno)
}
