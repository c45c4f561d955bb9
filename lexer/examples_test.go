package lexer_test

import (
	"slices"
	"testing"

	"lexprior/api"
	"lexprior/lexer"
)

// TestExamples: those of the chapter.
func TestExamples(t *testing.T) {
	s := "rule r1 of act at 2001-05-01: p(X) => -q.  # x"
	want := "n0:rule n5:r1 n8:of n11:act n15:at d18:2001-05-01 m28:: n30:p m31:( v32:X m33:) m35:=> m38:- n39:q m40:."
	if l, errno, at := lexer.Tokens(s); told(l) != want || len(l) != 15 || errno != api.OK || at != len(s) {
		t.Errorf("example 1: Tokens: %q, %d, %d", told(l), errno, at)
	}
	if l, errno, at := lexer.Remarks(s); !slices.Equal(l, []string{" x"}) || errno != api.OK || at != len(s) {
		t.Errorf("example 1: Remarks: %q, %d, %d", l, errno, at)
	}
	for s, want := range map[string]string{"12.5.": "b0:12.5 m4:.", "12.x": "b0:12 m2:. n3:x"} {
		if l, errno, at := lexer.Tokens(s); told(l) != want || errno != api.OK || at != len(s) {
			t.Errorf("example 2: Tokens(%s): %q, %d, %d", s, told(l), errno, at)
		}
	}
	for s, want := range map[string]int{"12x": 2, "aB": 1, "2001-05-012": 10} {
		if l, errno, at := lexer.Tokens(s); len(l) != 0 || errno != api.ErrByte || at != want {
			t.Errorf("example 2: Tokens(%s): %q, %d, %d", s, told(l), errno, at)
		}
	}
	if line, column, errno := lexer.Place("a\néb", 4); line != 2 || column != 2 || errno != api.OK {
		t.Errorf("example 3: Place: %d, %d, %d", line, column, errno)
	}
}
