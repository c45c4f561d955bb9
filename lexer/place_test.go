package lexer_test

import (
	"math"
	"strings"
	"testing"

	"lexprior/api"
	"lexprior/lexer"
)

// placeAsWritten: by the words of P4.3.
func placeAsWritten(s string, at int) (int, int) {
	ahead := s[:at]
	column := 1
	for i := strings.LastIndexByte(ahead, '\n') + 1; i < at; i++ {
		if s[i]>>6 != 2 {
			column++
		}
	}
	return 1 + strings.Count(ahead, "\n"), column
}

func checkPlace(t *testing.T, s string) {
	t.Helper()
	for at := range len(s) + 1 {
		wantLine, wantColumn := placeAsWritten(s, at)
		if line, column, errno := lexer.Place(s, at); line != wantLine || column != wantColumn || errno != api.OK {
			t.Fatalf("P4.3: Place(%.200q, %d) = %d, %d, %d, want %d, %d", s, at, line, column, errno, wantLine, wantColumn)
		}
	}
	for _, at := range []int{math.MinInt, -2, -1, len(s) + 1, len(s) + 2, math.MaxInt} {
		if line, column, errno := lexer.Place(s, at); line != 0 || column != 0 || errno != api.ErrArg {
			t.Fatalf("P4.3: Place(%.200q, %d) = %d, %d, %d", s, at, line, column, errno)
		}
	}
}

func TestPlaces(t *testing.T) {
	for _, s := range []string{"", "a", "\n", "\n\n", "a\n", "a\nb", "ab\r\ncd\r\n", "\t\r", "é", "aéb\n€𝄞x\n", "\x80", "\x80\xbf\xc0\xff\x7f", "a\n\x80\x80b", "é\n"[:1] + "\n\xa9", "\x00\n\x00", "\u2028a", "e\u0301"} {
		checkPlace(t, s)
	}
	eachRun([]string{"a", "\n", "\r", "\x7f", "\x80", "\xbf", "\xc0", "é"}, 4, func(s string) { checkPlace(t, s) })
	for b := range 256 {
		checkPlace(t, "x\n"+string([]byte{byte(b)})+"y")
	}
	for _, s := range someTexts(500) {
		checkPlace(t, s)
	}
}

func TestPlacesAsAPersonCountsThem(t *testing.T) {
	for _, each := range []struct {
		text             string
		at, line, column int
	}{
		{"", 0, 1, 1},
		{"ab", 0, 1, 1},
		{"ab", 2, 1, 3},
		{"a\nb", 1, 1, 2},
		{"a\nb", 2, 2, 1},
		{"a\nb", 3, 2, 2},
		{"a\n", 2, 2, 1},
		{"\n\n\n", 3, 4, 1},
		{"é€𝄞", 9, 1, 4},
		{"éb", 1, 1, 2},
		{"éb", 2, 1, 2},
		{"\ta", 1, 1, 2},
	} {
		if line, column, errno := lexer.Place(each.text, each.at); line != each.line || column != each.column || errno != api.OK {
			t.Errorf("P4.3: Place(%q, %d) = %d, %d, %d, want %d, %d", each.text, each.at, line, column, errno, each.line, each.column)
		}
	}
}

// TestPlacesOfLongTexts: a place is told of texts that have no tokens, too, be it for their length.
func TestPlacesOfLongTexts(t *testing.T) {
	s := strings.Repeat("é$\"\n", api.MaxText)
	for _, at := range []int{0, api.MaxText, len(s) - 2, len(s)} {
		wantLine, wantColumn := placeAsWritten(s, at)
		if line, column, errno := lexer.Place(s, at); line != wantLine || column != wantColumn || errno != api.OK {
			t.Errorf("P4.3: Place of a long text at %d: %d, %d, %d, want %d, %d", at, line, column, errno, wantLine, wantColumn)
		}
	}
	if line, column, errno := lexer.Place(s, len(s)+1); line != 0 || column != 0 || errno != api.ErrArg {
		t.Errorf("P4.3: Place behind a long text: %d, %d, %d", line, column, errno)
	}
}
