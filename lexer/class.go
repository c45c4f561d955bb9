package lexer

// class is what a character may be part of.
type class int

const (
	other class = iota
	lineEnd
	blank
	small
	capital
	digit
	underscore
	quotation
	sharp
	point
	sign // a mark, or the beginning of one, but for the point
)

// classOf: characters of more than one byte, and bytes that are none, are of the class other.
func classOf(c rune) class {
	switch c {
	case '\n':
		return lineEnd
	case '\t', '\r', ' ':
		return blank
	case '_':
		return underscore
	case '"':
		return quotation
	case '#':
		return sharp
	case '.':
		return point
	case '-', '=', '~', '!', '<', '>', '(', ')', '{', '}', ',', ':', '+', '*':
		return sign
	}
	switch {
	case c >= 'a' && c <= 'z':
		return small
	case c >= 'A' && c <= 'Z':
		return capital
	case c >= '0' && c <= '9':
		return digit
	}
	return other
}

func isMark(s string) bool {
	switch s {
	case "->", "=>", "~>", "!=", "<=", ">=", "==", "<>":
		return true
	case "<", ">", "(", ")", "{", "}", ",", ".", ":", "=", "-", "+", "*":
		return true
	}
	return false
}

// dateForm is the shape of a date: a 0 where a digit stands, else what stands there.
const dateForm = "0000-00-00"

func beginsDate(s string) bool {
	if len(s) < len(dateForm) {
		return false
	}
	for place, want := range dateForm {
		got := rune(s[place])
		if want == '0' && classOf(got) != digit {
			return false
		}
		if want != '0' && got != want {
			return false
		}
	}
	return true
}
