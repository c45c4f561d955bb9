package resolve_test

import (
	"testing"

	"lexprior/api"
)

// TestExamples: those of the chapter.
func TestExamples(t *testing.T) {
	first := "kind person. member ann : person. pred p(person). source a rank 1. "
	wantCheck(t, "example 1", parsed(t, first+"rule r of a at 2001-01-01 : p(X), X != Y => p(ann)."), api.ErrFree, 4)
	second := "kind person. amount h(person) : 10. source a rank 1. rule r of a at 2001-01-01 : => "
	wantCheck(t, "example 2", parsed(t, second+"h(X)."), api.ErrSort, 3)
	wantCheck(t, "example 2", parsed(t, second+"h(X) = 20."), api.ErrValue, 3)
	wantCheck(t, "example 2", parsed(t, second+"h(X) = 10."), api.OK, 4)
	third := "kind person. pred p(person). pred q(person). pred r(person, person). source a rank 1. rule x of a at 2001-01-01 : q(Y), p(X) => r(X, Y)."
	wantVars(t, parsed(t, third), 0, []string{"Y", "X"}, []int{0, 0}, api.OK)
}
