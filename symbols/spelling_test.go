package symbols_test

import (
	"strings"
	"testing"

	"lexprior/symbols"
)

func checkSpelling(t *testing.T, s string) {
	t.Helper()
	if is := symbols.IsName(s); is != nameForm.MatchString(s) {
		t.Errorf("P7.1: IsName(%q): %t", s, is)
	}
	if is := symbols.IsVar(s); is != varForm.MatchString(s) {
		t.Errorf("P7.1: IsVar(%q): %t", s, is)
	}
}

// TestSpellings: the cases that the chapter names, each with its answer written out.
func TestSpellings(t *testing.T) {
	for _, c := range []struct {
		s              string
		name, variable bool
	}{
		{"", false, false},
		{"a", true, false}, {"z", true, false}, {"A", false, true}, {"Z", false, true},
		{"a1", true, false}, {"a_", true, false}, {"z_09_az", true, false}, {"a__", true, false},
		{"A1", false, true}, {"A_", false, true}, {"Xy_1Z", false, true}, {"XX", false, true},
		{"1a", false, false}, {"1", false, false}, {"_a", false, false}, {"_", false, false}, {"_A", false, false},
		{"aB", false, false}, {"a b", false, false}, {"a ", false, false}, {" a", false, false}, {"a.", false, false}, {"a-b", false, false},
		{"a\n", false, false}, {"A\n", false, false}, {"a\x00", false, false}, {"\x00", false, false},
		{"é", false, false}, {"aé", false, false}, {"É", false, false}, {"Aé", false, false}, {"a\xff", false, false}, {"\x80", false, false},
		{"ａ", false, false}, {"a\u0661", false, false}, {"\u212a", false, false}, {"a\u017f", false, false},
		{"rule", true, false}, {"kind", true, false},
		{strings.Repeat("a", 31), true, false}, {strings.Repeat("a", 32), true, false}, {strings.Repeat("a", 33), false, false},
		{strings.Repeat("A", 31), false, true}, {strings.Repeat("A", 32), false, true}, {strings.Repeat("A", 33), false, false},
		{strings.Repeat("a", 31) + "é", false, false}, {strings.Repeat("é", 16), false, false},
	} {
		if symbols.IsName(c.s) != c.name || symbols.IsVar(c.s) != c.variable {
			t.Errorf("P7.1: of %q: IsName %t, IsVar %t", c.s, symbols.IsName(c.s), symbols.IsVar(c.s))
		}
	}
}

// TestEachByte: every byte first, behind another, and last in the longest.
func TestEachByte(t *testing.T) {
	for b := range 256 {
		c := string([]byte{byte(b)})
		for _, s := range []string{c, c + "a", c + "A", "a" + c, "A" + c, "a" + c + "a", "A" + c + "A", c + c, strings.Repeat("a", 31) + c, strings.Repeat("A", 31) + c, c + strings.Repeat("a", 31)} {
			checkSpelling(t, s)
		}
	}
}

// TestEachTextOfUpToFour: of an alphabet with each kind of byte and those beside its edges.
func TestEachTextOfUpToFour(t *testing.T) {
	alphabet := "azAZ09_`{@[/:\xc3"
	texts := []string{""}
	for range 4 {
		var longer []string
		for _, s := range texts {
			for i := range len(alphabet) {
				longer = append(longer, s+alphabet[i:i+1])
				checkSpelling(t, longer[len(longer)-1])
			}
		}
		texts = longer
	}
}

// TestLengths: a name and a variable of each length, and one wrong byte in each place.
func TestLengths(t *testing.T) {
	for n := range 70 {
		for _, c := range []string{"a", "A", "b_", "B1"} {
			s := strings.Repeat(c, n)[:n]
			checkSpelling(t, s)
			for at := range n {
				checkSpelling(t, s[:at]+"?"+s[at+1:])
				checkSpelling(t, s[:at]+"\xe9"+s[at+1:])
			}
		}
	}
	checkSpelling(t, strings.Repeat("a", 1<<20))
}

func FuzzSpelling(f *testing.F) {
	f.Add("a_1")
	f.Add("Xy")
	f.Fuzz(func(t *testing.T, s string) {
		checkSpelling(t, s)
	})
}
