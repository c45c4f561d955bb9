package octets

import "lexprior/api"

// hexDigits are the digits that are told; Unhex takes capitals too.
const hexDigits = "0123456789abcdef"

// Hex: two small digits a byte.
func Hex(b []byte) string {
	s := make([]byte, 0, 2*len(b))
	for _, c := range b {
		s = append(s, hexDigits[c>>4], hexDigits[c&15])
	}
	return string(s)
}

// Unhex: the bytes of digits.
func Unhex(s string) ([]byte, api.Errno, int) {
	b := make([]byte, len(s)/2)
	high := byte(0)
	// Up to the first rune that is no digit each rune is one byte: its place is how many digits there were.
	for at, r := range s {
		d, ok := digitValue(r)
		switch {
		case !ok:
			return nil, api.ErrDigit, at
		case at%2 == 0:
			high = d
		default:
			b[at/2] = high<<4 | d
		}
	}
	if len(s)%2 == 1 {
		return nil, api.ErrCount, len(s)
	}
	return b, api.OK, 0
}

// digitValue: what a digit stands for. It asks the whole rune: cut down to a byte, a rune above 255 may look like a digit.
func digitValue(r rune) (byte, bool) {
	switch {
	case '0' <= r && r <= '9':
		return byte(r - '0'), true
	case 'a' <= r && r <= 'f':
		return byte(r-'a') + 10, true
	case 'A' <= r && r <= 'F':
		return byte(r-'A') + 10, true
	}
	return 0, false
}
