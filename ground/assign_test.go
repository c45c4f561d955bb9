package ground_test

import (
	"math"
	"strconv"
	"strings"
	"testing"

	"lexprior/api"
)

func digits(n int) string {
	return strconv.Itoa(n)
}

// one: an assignment without variables.
func one() [][]int {
	return [][]int{{}}
}

// each: assignments of one variable.
func each(members ...int) [][]int {
	var all [][]int
	for _, m := range members {
		all = append(all, []int{m})
	}
	return all
}

func TestAssignments(t *testing.T) {
	for _, c := range []struct {
		rule string
		want [][]int
	}{
		{"=> rains", one()},
		{"old(ann), {income(ben) < 5} -> -rains", one()},
		{"old(X) => rains", each(ann, ben, cem)},
		{"=> old(X)", each(ann, ben, cem)},
		{"{income(X) < 5} => rains", each(ann, ben, cem)},
		{"{5 < income(X)} => rains", each(ann, ben, cem)},
		{"lives(ann, F) => rains", each(home, hut)},
		{"old(X), single(X), {income(X) < income(X)} => married(X)", each(ann, ben, cem)},
		{"lives(X, F) => rains", [][]int{{ann, home}, {ann, hut}, {ben, home}, {ben, hut}, {cem, home}, {cem, hut}}},
		{"=> lives(X, F)", [][]int{{ann, home}, {ann, hut}, {ben, home}, {ben, hut}, {cem, home}, {cem, hut}}},
		{"{rent(ann, F) < income(X)} => rains", [][]int{{home, ann}, {home, ben}, {home, cem}, {hut, ann}, {hut, ben}, {hut, cem}}},
		{"lives(ann, F) => old(X)", [][]int{{home, ann}, {home, ben}, {home, cem}, {hut, ann}, {hut, ben}, {hut, cem}}},
		{"X != F, lives(ann, F) => old(X)", [][]int{{ann, home}, {ann, hut}, {ben, home}, {ben, hut}, {cem, home}, {cem, hut}}},
		{"ann != Y, lives(ann, F), old(Y) => rains", [][]int{{ben, home}, {ben, hut}, {cem, home}, {cem, hut}}},
	} {
		wantAssignments(t, withRules(t, c.rule), 0, c.want, api.OK)
	}
}

// TestUnlike: premises that leave assignments out, or all, or none.
func TestUnlike(t *testing.T) {
	for _, c := range []struct {
		rule string
		want [][]int
	}{
		{"knows(X, Y), X != Y => rains", [][]int{{ann, ben}, {ann, cem}, {ben, ann}, {ben, cem}, {cem, ann}, {cem, ben}}},
		{"Y != X, knows(X, Y) => rains", [][]int{{ann, ben}, {ann, cem}, {ben, ann}, {ben, cem}, {cem, ann}, {cem, ben}}},
		{"knows(X, Y), X != Y, Y != X, X != Y => rains", [][]int{{ann, ben}, {ann, cem}, {ben, ann}, {ben, cem}, {cem, ann}, {cem, ben}}},
		{"knows(X, Y), X != Y, X != ann => rains", [][]int{{ben, ann}, {ben, cem}, {cem, ann}, {cem, ben}}},
		{"knows(X, Y), knows(Y, Z), X != Y, Y != Z, Z != X => rains", [][]int{{ann, ben, cem}, {ann, cem, ben}, {ben, ann, cem}, {ben, cem, ann}, {cem, ann, ben}, {cem, ben, ann}}},
		{"knows(X, Y), knows(Y, Z), X != ann, X != ben, Y != cem, Y != ann, Z != X => rains", [][]int{{cem, ben, ann}, {cem, ben, ben}}},
		{"old(X), X != ann, ben != X => rains", each(cem)},
		{"old(X), X != ann, X != ben, X != cem => rains", nil},
		{"old(X), X != X => rains", nil},
		{"old(X), ann != ann => rains", nil},
		{"ann != ann => rains", nil},
		{"ann != ben, ben != ben => rains", nil},
		{"ann != ben => rains", one()},
		{"home != ben, hut != ben => rains", one()},
		{"old(X), X != home, hut != X => rains", each(ann, ben, cem)},
		{"old(X), ann != ben => rains", each(ann, ben, cem)},
		{"lives(X, F), X != F => rains", [][]int{{ann, home}, {ann, hut}, {ben, home}, {ben, hut}, {cem, home}, {cem, hut}}},
		{"lives(X, F), X != ann, F != home => rains", [][]int{{ben, hut}, {cem, hut}}},
	} {
		s := withRules(t, c.rule)
		wantAssignments(t, s, 0, c.want, api.OK)
		if g := grounded(t, s); len(g.Theory.Rules) != len(c.want) || len(g.Schema) != len(c.want) {
			t.Errorf("P11.2: %s: %d rules of %d schemas, want %d", c.rule, len(g.Theory.Rules), len(g.Schema), len(c.want))
		}
	}
}

// TestOtherSchemas: each has assignments of its own.
func TestOtherSchemas(t *testing.T) {
	s := withRules(t, "old(X), X != ann => rains", "=> rains", "haunts(X, home) => rains", "lives(ben, X) => rains", "old(X), X != ann, X != ben => rains")
	for n, want := range [][][]int{each(ben, cem), one(), nil, each(home, hut), each(cem)} {
		wantAssignments(t, s, n, want, api.OK)
	}
}

// TestKindsWithoutMembers: no assignment, however many there would be of the other variables.
func TestKindsWithoutMembers(t *testing.T) {
	for _, rule := range []string{
		"haunts(G, F) => rains", "lives(X, F), haunts(G, F) => rains", "haunts(G, F), lives(X, F) => rains", "=> haunts(G, F)", "haunts(G, home) => rains",
		strings.Join([]string{"knows(A, B)", "knows(C, D)", "knows(E, F)", "knows(G, H)", "knows(I, J)", "knows(K, L)", "knows(M, N)", "knows(O, P)", "knows(Q, R)", "knows(S, T)", "knows(U, V)", "knows(W, X)", "haunts(Y, Z)", "knows(Aa, Bb)", "knows(Cc, Dd)", "knows(Ee, Ff)"}, ", ") + " => rains",
	} {
		s := withRules(t, rule, "=> rains")
		wantAssignments(t, s, 0, nil, api.OK)
		wantLines(t, rule, ruleLines(t, s, grounded(t, s)), "r1: => rains")
	}
	s := withRules(t, "haunts(G, F) => rains")
	wantGround(t, s, api.Ground{}, api.OK, 1)
	s.Members = nil
	wantAssignments(t, s, 0, nil, api.OK)
	wantGround(t, s, api.Ground{}, api.OK, 1)
}

func TestNoSuchSchema(t *testing.T) {
	s := withRules(t, "old(X) => rains", "=> rains")
	for _, schema := range []int{-1, 2, 3, math.MinInt, math.MaxInt} {
		wantAssignments(t, s, schema, nil, api.ErrArg)
	}
	wantAssignments(t, parsed(t, house), 0, nil, api.ErrArg)
	wantAssignments(t, api.Statute{}, 0, nil, api.ErrArg)
	wantGround(t, parsed(t, house), api.Ground{}, api.OK, 0)
	wantGround(t, api.Statute{}, api.Ground{}, api.OK, 0)
}

// spoilt is a statute that resolve.Check refuses.
type spoilt struct {
	errno api.Errno
	item  int
	spoil func(s *api.Statute)
}

// spoilts: of house with two rules and an exception.
func spoilts() []spoilt {
	return []spoilt{
		{api.ErrCount, 0, func(s *api.Statute) { s.Rules = make([]api.RuleText, api.MaxSchemas+1) }},
		{api.ErrTwice, 1, func(s *api.Statute) { s.Kinds[1] = "person" }},
		{api.ErrKind, 4, func(s *api.Statute) { s.Members[1].Kind = "none" }},
		{api.ErrSort, 8, func(s *api.Statute) { s.Preds[0].Sort = 0 }},
		{api.ErrClass, 21, func(s *api.Statute) { s.Classes[0][2] = "rains" }},
		{api.ErrRange, 22, func(s *api.Statute) { s.Sources[0].Rank = -1 }},
		{api.ErrSource, 23, func(s *api.Statute) { s.Rules[0].Source = "decree" }},
		{api.ErrArg, 23, func(s *api.Statute) { s.Rules[0].Body[0].Kind = 4 }},
		{api.ErrFree, 24, func(s *api.Statute) { s.Rules[1].Body[0].Lit.Args[0] = "ann" }},
		{api.ErrArity, 24, func(s *api.Statute) { s.Rules[1].Head.Args = nil }},
		{api.ErrName, 25, func(s *api.Statute) { s.Excepts[0].Over = "none" }},
	}
}

// TestRefusedStatutes: with resolve.Check's error and place, which goes ahead of a schema's number.
func TestRefusedStatutes(t *testing.T) {
	for _, c := range spoilts() {
		s := parsed(t, house+ruleTexts("old(Y), X != Y, old(X) => rains", "old(X), X != ann => help(ann) = 10")+"exception r0 to r1.")
		grounded(t, s)
		c.spoil(&s)
		for _, schema := range []int{0, 1, 2, -1, math.MaxInt} {
			wantAssignments(t, s, schema, nil, c.errno)
		}
		wantRefused(t, s, c.errno, c.item)
	}
}
