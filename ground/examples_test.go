package ground_test

import (
	"testing"

	"lexprior/api"
)

// TestExamples: those of the chapter.
func TestExamples(t *testing.T) {
	s := parsed(t, "kind person. member anna, ben : person. pred p(person). pred q(person, person). source a rank 1. rule r of a at 2001-01-01 : p(X), X != ben => q(X, Y).")
	wantAssignments(t, s, 0, [][]int{{0, 0}, {0, 1}}, api.OK)
	wantRuleName(t, s, grounded(t, s), 1, "r[anna,ben]", api.OK)
	s = parsed(t, "kind person. member anna : person. amount help(person) : 10, 20. number income(person). source a rank 1. rule r of a at 2001-01-01 : {income(X) < 10} => help(X) = 20.")
	wantLines(t, "example 2", litTexts(t, s, grounded(t, s)), "help(anna) = 10", "help(anna) = 20", "-help(anna) = 20", "{income(anna) < 10}")
}
