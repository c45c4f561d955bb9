package symbols

import "lexprior/api"

// IsName: is it a name?
func IsName(s string) bool {
	return spelt(s, isSmall, inName)
}

// IsVar: is it a variable?
func IsVar(s string) bool {
	return spelt(s, isCapital, inVar)
}

// spelt: does s begin and go on so, and is it no longer than a name may be?
func spelt(s string, begins, goesOn func(byte) bool) bool {
	if len(s) < 1 || len(s) > api.MaxName || !begins(s[0]) {
		return false
	}
	for at := range len(s) {
		if !goesOn(s[at]) {
			return false
		}
	}
	return true
}

func isSmall(b byte) bool {
	return 'a' <= b && b <= 'z'
}

func isCapital(b byte) bool {
	return 'A' <= b && b <= 'Z'
}

func inName(b byte) bool {
	return isSmall(b) || '0' <= b && b <= '9' || b == '_'
}

func inVar(b byte) bool {
	return inName(b) || isCapital(b)
}
