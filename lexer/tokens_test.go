package lexer_test

import (
	"slices"
	"strconv"
	"strings"
	"testing"

	"lexprior/api"
	"lexprior/lexer"
)

// TestAllShortTexts: held against the words of the chapter.
func TestAllShortTexts(t *testing.T) {
	eachRun(strings.Split("a|B|1|.|-|>|=|#|\"|\n| |_|~|$", "|"), 4, func(s string) { checkText(t, s) })
	eachRun(allMarks(), 3, func(s string) { checkText(t, s) })
	eachRun(strings.Split("<|>|=|-|~|!|.|(|\x00|a", "|"), 4, func(s string) { checkText(t, s) })
}

func TestTextsNearDates(t *testing.T) {
	eachRun(strings.Split("2001|05|1|-|.|x", "|"), 6, func(s string) { checkText(t, s) })
	for _, date := range []string{"2001-05-01", "0000-00-00", "9999-99-99"} {
		for place := range date {
			for b := range 256 {
				checkText(t, date[:place]+string([]byte{byte(b)})+date[place+1:])
				checkText(t, date[:place]+string([]byte{byte(b)})+date[place:])
			}
			checkText(t, date[:place])
			checkText(t, date[:place]+date[place+1:])
		}
	}
}

func TestEachByte(t *testing.T) {
	for b := range 256 {
		for _, form := range []string{"?", "a?", "A?", "1?", "1.?", "1.5?", "2001-05-01?", "=?", "~?", "!?", ")?", `""?`, `"?"`, `"?`, "#?", "# ?\n?", "?a", "?>", "?=", "? ?", "??"} {
			checkText(t, strings.ReplaceAll(form, "?", string([]byte{byte(b)})))
		}
	}
}

func TestManyTexts(t *testing.T) {
	good := 0
	for _, s := range someTexts(20000) {
		checkText(t, s)
		if read(s).errno == api.OK {
			good++
		}
	}
	if good < 2000 {
		t.Errorf("only %d of the texts have tokens", good)
	}
}

// told: tokens, each as its kind's letter, its place, its text.
func told(l []api.Token) string {
	var all []string
	for _, t := range l {
		all = append(all, "?nvbdqm"[t.Kind:t.Kind+1]+strconv.Itoa(t.At)+":"+t.Text)
	}
	return strings.Join(all, " ")
}

func TestTokensOfTexts(t *testing.T) {
	for _, each := range []struct{ text, want string }{
		{"", ""},
		{" \t\r\n", ""},
		{"#", ""},
		{"# a \"b $ é\x00", ""},
		{"# a\n#b\n\n", ""},
		{"#a\nb#c\nD#", "n3:b v7:D"},
		{"a", "n0:a"},
		{"a_ z9_", "n0:a_ n3:z9_"},
		{"X Xy_9Z", "v0:X v2:Xy_9Z"},
		{"0", "b0:0"},
		{"007 12.50 0.0", "b0:007 b4:12.50 b10:0.0"},
		{"1.", "b0:1 m1:."},
		{"1..2", "b0:1 m1:. m2:. b3:2"},
		{"1.2.3.4", "b0:1.2 m3:. b4:3.4"},
		{".5", "m0:. b1:5"},
		{"1. 5", "b0:1 m1:. b3:5"},
		{"1.#\n5", "b0:1 m1:. b4:5"},
		{"-1", "m0:- b1:1"},
		{"1-2", "b0:1 m1:- b2:2"},
		{"2001-05-01", "d0:2001-05-01"},
		{"0000-99-00", "d0:0000-99-00"},
		{"2001-05-01.", "d0:2001-05-01 m10:."},
		{"2001-05-01.5", "d0:2001-05-01 m10:. b11:5"},
		{"2001-05-01-2001-05-01", "d0:2001-05-01 m10:- d11:2001-05-01"},
		{"2001-05-0", "b0:2001 m4:- b5:05 m7:- b8:0"},
		{"2001-5-01", "b0:2001 m4:- b5:5 m6:- b7:01"},
		{"12001-05-01", "b0:12001 m5:- b6:05 m8:- b9:01"},
		{"201-05-01", "b0:201 m3:- b4:05 m6:- b7:01"},
		{"2001-05-x1", "b0:2001 m4:- b5:05 m7:- n8:x1"},
		{"2001-05", "b0:2001 m4:- b5:05"},
		{"2001 -05-01", "b0:2001 m5:- b6:05 m8:- b9:01"},
		{"1.2001-05-01", "b0:1.2001 m6:- b7:05 m9:- b10:01"},
		{"2001-05.01", "b0:2001 m4:- b5:05.01"},
		{`""`, "q0:"},
		{`"a b"c""`, "q0:a b n5:c q6:"},
		{"\"#\t\r\x00\x80é<-\"", "q0:#\t\r\x00\x80é<-"},
		{`a"b"1"c"`, `n0:a q1:b b4:1 q5:c`},
		{"->=>~>!=<=>===<><>", "m0:-> m2:=> m4:~> m6:!= m8:<= m10:>= m12:== m14:<> m16:<>"},
		{"(){},.:=-+*", "m0:( m1:) m2:{ m3:} m4:, m5:. m6:: m7:= m8:- m9:+ m10:*"},
		{"< > = -", "m0:< m2:> m4:= m6:-"},
		{"-->", "m0:- m1:->"},
		{"<=>", "m0:<= m2:>"},
		{"<->", "m0:< m1:->"},
		{"===", "m0:== m2:="},
		{"=<", "m0:= m1:<"},
		{">>=", "m0:> m1:>="},
		{"- >", "m0:- m2:>"},
	} {
		tokens, errno, at := lexer.Tokens(each.text)
		if told(tokens) != each.want || errno != api.OK || at != len(each.text) {
			t.Errorf("P4.1: Tokens(%q) = %q, %d, %d, want %q", each.text, told(tokens), errno, at, each.want)
		}
	}
}

func TestFaults(t *testing.T) {
	word := strings.Repeat("a", api.MaxName)
	for _, each := range []struct {
		text  string
		errno api.Errno
		at    int
	}{
		{"$", api.ErrByte, 0},
		{"_", api.ErrByte, 0},
		{"\x00", api.ErrByte, 0},
		{"\v", api.ErrByte, 0},
		{"\xff", api.ErrByte, 0},
		{"p \x80", api.ErrByte, 2},
		{"é", api.ErrByte, 0},
		{"aé", api.ErrByte, 1},
		{"1é", api.ErrByte, 1},
		{"x \ufeff", api.ErrByte, 2},
		{"!", api.ErrByte, 0},
		{"~", api.ErrByte, 0},
		{"a ~=", api.ErrByte, 2},
		{"!>", api.ErrByte, 0},
		{"~~>", api.ErrByte, 0},
		{"~é", api.ErrByte, 0},
		{"=!", api.ErrByte, 1},
		{"=~", api.ErrByte, 1},
		{"aB", api.ErrByte, 1},
		{"a_ z9_B", api.ErrByte, 6},
		{"a_ z9_ _", api.ErrByte, 7},
		{"12x", api.ErrByte, 2},
		{"12X", api.ErrByte, 2},
		{"12_", api.ErrByte, 2},
		{"12.5x", api.ErrByte, 4},
		{"12.5_", api.ErrByte, 4},
		{"12._", api.ErrByte, 3},
		{"2001-05-012", api.ErrByte, 10},
		{"2001-05-01x", api.ErrByte, 10},
		{"2001-05-01X", api.ErrByte, 10},
		{"2001-05-01_", api.ErrByte, 10},
		{"2001x-05-01", api.ErrByte, 4},
		{"12x $", api.ErrByte, 2},
		{"$ \"", api.ErrByte, 0},
		{`"`, api.ErrQuote, 0},
		{`a "b`, api.ErrQuote, 2},
		{"a \"b\nc\"", api.ErrQuote, 2},
		{`"a" "`, api.ErrQuote, 4},
		{`"a""`, api.ErrQuote, 3},
		{"\"\n\"", api.ErrQuote, 0},
		{`"$`, api.ErrQuote, 0},
		{"a\" $\n", api.ErrQuote, 1},
		{"# \"\n \"", api.ErrQuote, 5},
		{word, api.OK, len(word)},
		{"X" + word[1:], api.OK, len(word)},
		{word + "a", api.ErrLong, 0},
		{word + "1", api.ErrLong, 0},
		{word + "_", api.ErrLong, 0},
		{word + "B", api.ErrByte, len(word)},
		{word + "aB", api.ErrLong, 0},
		{word + "aé", api.ErrLong, 0},
		{word + "é", api.ErrByte, len(word)},
		{"X" + word, api.ErrLong, 0},
		{"X" + word + "$", api.ErrLong, 0},
		{"( " + word + "a $", api.ErrLong, 2},
		{"$ " + word + "a", api.ErrByte, 0},
		{word + "a \"", api.ErrLong, 0},
		{strings.Repeat("7", 99), api.OK, 99},
	} {
		tokens, errno, at := lexer.Tokens(each.text)
		if errno != each.errno || at != each.at || errno != api.OK && len(tokens) != 0 {
			t.Errorf("P4.1: Tokens(%q) = %q, %d, %d, want %d, %d", each.text, told(tokens), errno, at, each.errno, each.at)
		}
		remarks, errno, at := lexer.Remarks(each.text)
		if errno != each.errno || at != each.at || len(remarks) != 0 {
			t.Errorf("P4.4: Remarks(%q) = %q, %d, %d, want %d, %d", each.text, remarks, errno, at, each.errno, each.at)
		}
	}
}

// TestLongTexts: of MaxText bytes and of one more, whatever stands in them.
func TestLongTexts(t *testing.T) {
	for _, piece := range []string{" ", "\n", "#", "# x\n", "p(X) => -q. ", "a ", "1", "(", `"a"`, "é", "$", `"`, "a", "\x00"} {
		s := strings.Repeat(piece, api.MaxText/len(piece)+1)
		for _, length := range []int{api.MaxText - 1, api.MaxText} {
			checkText(t, s[:length])
		}
		for _, long := range []string{s[:api.MaxText] + " ", s[:api.MaxText] + "$", s[:api.MaxText] + s} {
			if tokens, errno, at := lexer.Tokens(long); errno != api.ErrLong || at != 0 || len(tokens) != 0 {
				t.Errorf("P4.1: Tokens of %d bytes: %d tokens, %d, %d", len(long), len(tokens), errno, at)
			}
			if remarks, errno, at := lexer.Remarks(long); errno != api.ErrLong || at != 0 || len(remarks) != 0 {
				t.Errorf("P4.4: Remarks of %d bytes: %d remarks, %d, %d", len(long), len(remarks), errno, at)
			}
		}
	}
	if tokens, errno, at := lexer.Tokens(strings.Repeat("(", api.MaxText)); len(tokens) != api.MaxText || errno != api.OK || at != api.MaxText {
		t.Errorf("P4.1: of MaxText marks: %d tokens, %d, %d", len(tokens), errno, at)
	}
}

func TestRemarksOfTexts(t *testing.T) {
	for _, each := range []struct {
		text string
		want []string
	}{
		{"", nil},
		{" p. \n", nil},
		{"#", []string{""}},
		{"#\n", []string{""}},
		{"##", []string{"#"}},
		{"#\n#\n#", []string{"", "", ""}},
		{"# a\r\n#b", []string{" a\r", "b"}},
		{"p.#a \nq. # b# c\n\n", []string{"a ", " b# c"}},
		{`"#a" # "b`, []string{` "b`}},
		{"# é \x00\xff\x80 $ ~", []string{" é \x00\xff\x80 $ ~"}},
		{"a#b\nc#d", []string{"b", "d"}},
		{"1#2\n.#3", []string{"2", "3"}},
		{"-#>\n>", []string{">"}},
	} {
		if remarks, errno, at := lexer.Remarks(each.text); !slices.Equal(remarks, each.want) || errno != api.OK || at != len(each.text) {
			t.Errorf("P4.4: Remarks(%q) = %q, %d, %d, want %q", each.text, remarks, errno, at, each.want)
		}
	}
	for text, want := range map[string]int{"# a\n$": 4, "# a\n1x # b": 5} {
		if remarks, errno, at := lexer.Remarks(text); len(remarks) != 0 || errno != api.ErrByte || at != want {
			t.Errorf("P4.4: Remarks(%q) = %q, %d, %d", text, remarks, errno, at)
		}
	}
}
