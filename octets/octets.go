// Package octets is layer 1: numbers and texts as bytes, a sum, hexadecimal digits. See shared/doc/01-octets.md.
package octets

import "lexprior/api"

// longest is how many bytes a number has at most: seven bits a byte, so that the tenth has but one of the 64 bits.
const longest = 10

// Uint: a number's bytes.
func Uint(n uint64) []byte {
	b := make([]byte, 0, longest)
	for n >= 0x80 {
		b = append(b, byte(n)|0x80)
		n >>= 7
	}
	return append(b, byte(n))
}

// ReadUint: the number that stands at a place, and the place behind it.
func ReadUint(b []byte, at int) (uint64, int, api.Errno) {
	if at < 0 || at > len(b) {
		return 0, at, api.ErrArg
	}
	var n uint64
	for i, c := range b[at:] {
		// A tenth byte that goes on is above 1 too, so the loop never comes to an eleventh.
		if i == longest-1 && c > 1 {
			return 0, at, api.ErrNumber
		}
		n |= uint64(c&0x7f) << (7 * i)
		if c >= 0x80 {
			continue
		}
		// A last byte 0 behind others says nothing: the number has a shorter form.
		if c == 0 && i > 0 {
			return 0, at, api.ErrNumber
		}
		return n, at + i + 1, api.OK
	}
	return 0, len(b), api.ErrShort
}

// Text: a text's bytes, its length ahead of them.
func Text(s string) []byte {
	return append(Uint(uint64(len(s))), s...)
}

// ReadText: the text that stands at a place, and the place behind it.
func ReadText(b []byte, at int) (string, int, api.Errno) {
	size, from, errno := ReadUint(b, at)
	if errno != api.OK {
		return "", from, errno
	}
	// Compared as uint64: a size that no int holds must not wrap round to a small one.
	if size > uint64(len(b)-from) {
		return "", len(b), api.ErrShort
	}
	to := from + int(size)
	return string(b[from:to]), to, api.OK
}
