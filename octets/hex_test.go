package octets_test

import (
	"bytes"
	"encoding/hex"
	"strings"
	"testing"

	"lexprior/api"
	"lexprior/octets"
)

func TestHexDigits(t *testing.T) {
	for _, c := range []struct {
		b    []byte
		want string
	}{
		{nil, ""},
		{[]byte{}, ""},
		{[]byte{0}, "00"},
		{[]byte{0, 255, 10}, "00ff0a"},
		{[]byte{0xab, 0xcd, 0xef}, "abcdef"},
	} {
		if got := octets.Hex(c.b); got != c.want {
			t.Errorf("P1.4: Hex(% x) = %q, want %q", c.b, got, c.want)
		}
	}
	for i := range 256 {
		b := []byte{byte(i), byte(255 - i)}
		if got := octets.Hex(b); got != hex.EncodeToString(b) {
			t.Errorf("P1.4: Hex(% x) = %q", b, got)
		}
	}
}

func TestUnhexAnswers(t *testing.T) {
	for _, c := range []struct {
		why   string
		s     string
		want  []byte
		errno api.Errno
		at    int
	}{
		{"nothing", "", nil, api.OK, 0},
		{"small and great digits", "0aFF", []byte{10, 255}, api.OK, 0},
		{"both in one byte", "aBCd", []byte{0xab, 0xcd}, api.OK, 0},

		{"one digit", "0", nil, api.ErrCount, 1},
		{"three digits", "abc", nil, api.ErrCount, 3},

		{"behind f", "0g", nil, api.ErrDigit, 1},
		{"at the first place", "g0", nil, api.ErrDigit, 0},
		{"the first of two", "00 0 0", nil, api.ErrDigit, 2},
		{"a digit's number ahead of an odd count", "g", nil, api.ErrDigit, 0},
		{"the last place of an odd count", "00x", nil, api.ErrDigit, 2},
		{"a sign", "-1", nil, api.ErrDigit, 0},
		{"a 0 byte", "0\x00", nil, api.ErrDigit, 1},

		{"a rune of two bytes", "00é0", nil, api.ErrDigit, 2},
		{"a rune of three bytes at an odd place", "0€0", nil, api.ErrDigit, 1},
		{"a rune of four bytes", "\U0001d7d80", nil, api.ErrDigit, 0},
		{"a byte that begins no rune", "0a\x80", nil, api.ErrDigit, 2},
		{"a byte ff", "\xff\xff", nil, api.ErrDigit, 0},
		{"a rune cut off", "ab\xe2\x82", nil, api.ErrDigit, 2},
		{"a rune whose low byte is the digit 0", "0\u0130", nil, api.ErrDigit, 1},
		{"a rune whose low byte is the digit a", "0\u0161", nil, api.ErrDigit, 1},
		{"a rune whose low byte is the digit A", "\u0141", nil, api.ErrDigit, 0},
		{"digits of full width", "\uff10\uff11", nil, api.ErrDigit, 0},
		{"arabic digits", "\u0660\u0661", nil, api.ErrDigit, 0},
		{"the rune of a fault itself", "00\ufffd", nil, api.ErrDigit, 2},
	} {
		b, errno, at := octets.Unhex(c.s)
		if !bytes.Equal(b, c.want) || errno != c.errno || at != c.at {
			t.Errorf("P1.4, P4: %s: Unhex(%q) = % x, %d, %d, want % x, %d, %d", c.why, c.s, b, errno, at, c.want, c.errno, c.at)
		}
	}
}

// TestUnhexEachByte: each byte at each of four places, against the list of digits.
func TestUnhexEachByte(t *testing.T) {
	const digits = "0123456789abcdefABCDEF"
	for i := range 256 {
		for place := range 4 {
			s := []byte("1234")
			s[place] = byte(i)
			b, errno, at := octets.Unhex(string(s))
			if strings.IndexByte(digits, byte(i)) < 0 {
				if len(b) != 0 || errno != api.ErrDigit || at != place {
					t.Errorf("P1.4: Unhex(%q) = % x, %d, %d, want ErrDigit, %d", s, b, errno, at, place)
				}
				continue
			}
			want, _ := hex.DecodeString(string(s))
			if !bytes.Equal(b, want) || errno != api.OK || at != 0 {
				t.Errorf("P1.4: Unhex(%q) = % x, %d, %d, want % x", s, b, errno, at, want)
			}
		}
	}
}

func TestUnhexOfHex(t *testing.T) {
	for _, size := range []int{0, 1, 2, 3, 255, 1 << 16} {
		want := sample(uint32(size)+7, size)
		s := octets.Hex(want)
		for _, digits := range []string{s, strings.ToUpper(s)} {
			if b, errno, at := octets.Unhex(digits); !bytes.Equal(b, want) || errno != api.OK || at != 0 {
				t.Errorf("P1.5: Unhex of Hex of %d bytes: %d, %d", size, errno, at)
			}
		}
	}
}
