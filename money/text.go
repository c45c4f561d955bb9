package money

import (
	"strconv"
	"strings"

	"lexprior/api"
)

// mostDigits is how many digits the whole part of Most has.
const mostDigits = 14

// Parse: an amount of its one form.
func Parse(s string) (api.Money, api.Errno) {
	digits, below := strings.CutPrefix(s, "-")
	whole, cents, pointed := strings.Cut(digits, ".")
	if !isWhole(whole) || pointed && !isCents(cents) {
		return 0, api.ErrMoney
	}
	if below && whole == "0" && !pointed {
		return 0, api.ErrMoney
	}
	// Told by the length alone, so that no number is too great to be reckoned.
	if len(whole) > mostDigits {
		return 0, api.ErrOver
	}
	m := 100*number(whole) + number(cents)
	if errno := Check(m); errno != api.OK {
		return 0, errno
	}
	if below {
		m = -m
	}
	return m, api.OK
}

// Print: its one form.
func Print(m api.Money) (string, api.Errno) {
	if errno := Check(m); errno != api.OK {
		return "", errno
	}
	sign := ""
	if m < 0 {
		sign, m = "-", -m
	}
	text := sign + strconv.FormatInt(int64(m/100), 10)
	if cents := m % 100; cents != 0 {
		text += "." + strconv.FormatInt(int64(cents/10), 10) + strconv.FormatInt(int64(cents%10), 10)
	}
	return text, api.OK
}

func isWhole(s string) bool {
	return s == "0" || s != "" && s[0] != '0' && areDigits(s)
}

func isCents(s string) bool {
	return len(s) == 2 && s != "00" && areDigits(s)
}

func areDigits(s string) bool {
	for i := range len(s) {
		if s[i] < '0' || s[i] > '9' {
			return false
		}
	}
	return true
}

// number: what digits say; no digits say 0.
func number(digits string) api.Money {
	var n api.Money
	for i := range len(digits) {
		n = 10*n + api.Money(digits[i]-'0')
	}
	return n
}
