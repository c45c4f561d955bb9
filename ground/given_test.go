package ground_test

import (
	"slices"
	"strings"
	"testing"

	"lexprior/api"
	"lexprior/ground"
	"lexprior/syntax"
)

// house has three kinds, of which the last has no member, and all sorts of predicates; rules are written behind it.
const house = `
kind person. kind flat. kind ghost.
member ann : person. member home : flat. member ben, cem : person. member hut : flat.
pred old(person). pred single(person). pred married(person). pred widowed(person). pred lives(person, flat). pred haunts(ghost, flat). pred knows(person, person). pred rains.
number rate. number income(person). number rent(person, flat).
amount help(person) : 20.50, 10. amount bonus : 3, 0.
class single, married, widowed.
source act rank 1.
`

// The members of house, by their numbers.
const (
	ann = iota
	home
	ben
	cem
	hut
)

func parsed(t testing.TB, text string) api.Statute {
	t.Helper()
	s, errno, at := syntax.Parse(text)
	if errno != api.OK {
		t.Fatalf("Parse(%q): %d, %d", text, errno, at)
	}
	return s
}

// withRules: house and rules named r0, r1, .., each written without its name, source and day.
func withRules(t testing.TB, rules ...string) api.Statute {
	t.Helper()
	return parsed(t, house+ruleTexts(rules...))
}

func ruleTexts(rules ...string) string {
	var text strings.Builder
	for n, rule := range rules {
		text.WriteString("rule r" + digits(n) + " of act at 2001-05-01 : " + rule + ".\n")
	}
	return text.String()
}

// wantAssignments: an empty list is one without assignments, and one with an empty one has one.
func wantAssignments(t testing.TB, s api.Statute, schema int, want [][]int, errno api.Errno) {
	t.Helper()
	got, gotErrno := ground.Assignments(s, schema)
	if !slices.EqualFunc(got, want, slices.Equal) || gotErrno != errno {
		t.Errorf("P11.1: Assignments(%.2000v, %d): %.1000v, %d, want %.1000v, %d", s, schema, got, gotErrno, want, errno)
	}
}

func wantGround(t testing.TB, s api.Statute, want api.Ground, errno api.Errno, place int) {
	t.Helper()
	got, gotErrno, gotPlace := ground.Ground(s)
	if gotErrno != errno || gotPlace != place {
		t.Errorf("P11.2: Ground(%.2000v): %d, %d, want %d, %d", s, gotErrno, gotPlace, errno, place)
		return
	}
	if !same(got, want) {
		t.Errorf("P11.2: Ground(%.2000v): %.2000v, want %.2000v", s, got, want)
	}
}

// wantRefused: there is no ground.
func wantRefused(t testing.TB, s api.Statute, errno api.Errno, place int) {
	t.Helper()
	wantGround(t, s, api.Ground{}, errno, place)
}

// grounded: of a statute that has a ground.
func grounded(t testing.TB, s api.Statute) api.Ground {
	t.Helper()
	g, errno, place := ground.Ground(s)
	if errno != api.OK || place != len(s.Rules) {
		t.Fatalf("P11.2: Ground(%.2000v): %d, %d", s, errno, place)
	}
	return g
}

func wantLit(t testing.TB, s api.Statute, g api.Ground, n int, want string, errno api.Errno) {
	t.Helper()
	if got, gotErrno := ground.Lit(s, g, n); got != want || gotErrno != errno {
		t.Errorf("P11.3: Lit(%.500v, %d): %q, %d, want %q, %d", g, n, got, gotErrno, want, errno)
	}
}

func wantRuleName(t testing.TB, s api.Statute, g api.Ground, r int, want string, errno api.Errno) {
	t.Helper()
	if got, gotErrno := ground.RuleName(s, g, r); got != want || gotErrno != errno {
		t.Errorf("P11.3: RuleName(%.500v, %d): %q, %d, want %q, %d", g, r, got, gotErrno, want, errno)
	}
}

func wantNumber(t testing.TB, s api.Statute, g api.Ground, l api.Lit, want int, there bool) {
	t.Helper()
	if got, gotThere := ground.Number(s, g, l); got != want || gotThere != there {
		t.Errorf("P11.3: Number(%.500v, %+v): %d, %t, want %d, %t", g, l, got, gotThere, want, there)
	}
}

// litTexts: of all literals of a ground, in order.
func litTexts(t testing.TB, s api.Statute, g api.Ground) []string {
	t.Helper()
	var all []string
	for n := range g.Lits {
		text, errno := ground.Lit(s, g, n)
		if errno != api.OK {
			t.Fatalf("P11.3: Lit(%.2000v, %d): %d", g, n, errno)
		}
		all = append(all, text)
	}
	return all
}

// ruleLines: of all rules of a ground, in order, as name: body arrow head.
func ruleLines(t testing.TB, s api.Statute, g api.Ground) []string {
	t.Helper()
	texts := litTexts(t, s, g)
	arrows := []string{api.Strict: "->", api.Defeasible: "=>", api.Defeater: "~>"}
	var all []string
	for n, r := range g.Theory.Rules {
		name, errno := ground.RuleName(s, g, n)
		if errno != api.OK {
			t.Fatalf("P11.3: RuleName(%.2000v, %d): %d", g, n, errno)
		}
		line := name + ":"
		for i, lit := range r.Body {
			if i > 0 {
				line += ","
			}
			line += " " + texts[lit]
		}
		all = append(all, line+" "+arrows[r.Kind]+" "+texts[r.Head])
	}
	return all
}

func wantLines(t testing.TB, what string, got []string, want ...string) {
	t.Helper()
	if !slices.Equal(got, want) {
		t.Errorf("P11.2: %s: %q, want %q", what, got, want)
	}
}

// wantRules: the lines of the rules of house with these.
func wantRules(t testing.TB, rules []string, want ...string) {
	t.Helper()
	s := withRules(t, rules...)
	wantLines(t, strings.Join(rules, "; "), ruleLines(t, s, grounded(t, s)), want...)
}

// wantLits: the texts of the literals of house with these.
func wantLits(t testing.TB, rules []string, want ...string) {
	t.Helper()
	s := withRules(t, rules...)
	wantLines(t, strings.Join(rules, "; "), litTexts(t, s, grounded(t, s)), want...)
}
