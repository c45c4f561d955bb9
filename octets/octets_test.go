package octets_test

import (
	"bytes"
	"encoding/binary"
	"math"
	"strings"
	"testing"

	"lexprior/api"
	"lexprior/octets"
)

// edgeNumbers: around each place where a number takes a byte or a bit more.
func edgeNumbers() []uint64 {
	ns := []uint64{0, 300, math.MaxUint64}
	for bit := range 64 {
		p := uint64(1) << bit
		ns = append(ns, p-1, p, p+1, ^p)
	}
	return ns
}

// sample: bytes that look like chance but are the same in each run.
func sample(seed uint32, size int) []byte {
	b := make([]byte, size)
	for i := range b {
		seed = seed*1664525 + 1013904223
		b[i] = byte(seed >> 24)
	}
	return b
}

func repeated(c byte, times int, last ...byte) []byte {
	return append(bytes.Repeat([]byte{c}, times), last...)
}

func TestUintBytes(t *testing.T) {
	for _, c := range []struct {
		n    uint64
		want []byte
	}{
		{0, []byte{0}},
		{1, []byte{1}},
		{127, []byte{0x7f}},
		{128, []byte{0x80, 1}},
		{300, []byte{0xac, 2}},
		{16383, []byte{0xff, 0x7f}},
		{16384, []byte{0x80, 0x80, 1}},
		{1<<63 - 1, repeated(0xff, 8, 0x7f)},
		{1 << 63, repeated(0x80, 9, 1)},
		{math.MaxUint64, repeated(0xff, 9, 1)},
	} {
		if got := octets.Uint(c.n); !bytes.Equal(got, c.want) {
			t.Errorf("P1.1: Uint(%d) = % x, want % x", c.n, got, c.want)
		}
	}
	for _, n := range edgeNumbers() {
		if got, want := octets.Uint(n), binary.AppendUvarint(nil, n); !bytes.Equal(got, want) {
			t.Errorf("P1.1: Uint(%d) = % x, want % x", n, got, want)
		}
	}
}

func TestReadUintAnswers(t *testing.T) {
	for _, c := range []struct {
		why   string
		b     []byte
		at    int
		n     uint64
		to    int
		errno api.Errno
	}{
		{"one byte", []byte{0}, 0, 0, 1, api.OK},
		{"one byte", []byte{0x7f}, 0, 127, 1, api.OK},
		{"two bytes", []byte{0xac, 2}, 0, 300, 2, api.OK},
		{"more behind", []byte{5, 0xff}, 0, 5, 1, api.OK},
		{"amid others", []byte{0xff, 0xac, 2, 9}, 1, 300, 3, api.OK},
		{"the last byte of another", []byte{0xac, 2}, 1, 2, 2, api.OK},
		{"the greatest", repeated(0xff, 9, 1), 0, math.MaxUint64, 10, api.OK},
		{"the tenth byte counts from the place", append([]byte{0x80}, repeated(0xff, 9, 1)...), 1, math.MaxUint64, 11, api.OK},

		{"below 0", []byte{1}, -1, 0, -1, api.ErrArg},
		{"far below 0", []byte{1}, math.MinInt, 0, math.MinInt, api.ErrArg},
		{"above the length", []byte{1}, 2, 0, 2, api.ErrArg},
		{"far above the length", []byte{1}, math.MaxInt, 0, math.MaxInt, api.ErrArg},
		{"above nothing", nil, 1, 0, 1, api.ErrArg},
		{"below nothing", nil, -1, 0, -1, api.ErrArg},

		{"nothing", nil, 0, 0, 0, api.ErrShort},
		{"empty", []byte{}, 0, 0, 0, api.ErrShort},
		{"at the end", []byte{1, 2}, 2, 0, 2, api.ErrShort},
		{"no last byte", []byte{0x80}, 0, 0, 1, api.ErrShort},
		{"no last byte, from a place on", []byte{1, 0x81, 0xff}, 1, 0, 3, api.ErrShort},
		{"nine bytes and no last one", repeated(0xff, 9), 0, 0, 9, api.ErrShort},

		{"a last byte 0", []byte{0x80, 0}, 0, 0, 0, api.ErrNumber},
		{"a last byte 0, from a place on", []byte{7, 0xff, 0, 7}, 1, 0, 1, api.ErrNumber},
		{"a ninth byte 0", repeated(0xff, 8, 0), 0, 0, 0, api.ErrNumber},
		{"a tenth byte 0", repeated(0xff, 9, 0), 0, 0, 0, api.ErrNumber},
		{"a tenth byte 2", repeated(0x80, 9, 2), 0, 0, 0, api.ErrNumber},
		{"a tenth byte 7f", repeated(0x80, 9, 0x7f), 0, 0, 0, api.ErrNumber},
		{"a tenth byte that goes on", repeated(0x80, 10), 0, 0, 0, api.ErrNumber},
		{"a tenth byte 81", repeated(0x80, 9, 0x81), 0, 0, 0, api.ErrNumber},
		{"a tenth byte that goes on to another", repeated(0x80, 10, 1), 0, 0, 0, api.ErrNumber},
		{"a tenth byte that goes on, from a place on", repeated(0xff, 12), 2, 0, 2, api.ErrNumber},
	} {
		n, to, errno := octets.ReadUint(c.b, c.at)
		if n != c.n || to != c.to || errno != c.errno {
			t.Errorf("P1.1, P4: %s: ReadUint(% x, %d) = %d, %d, %d, want %d, %d, %d", c.why, c.b, c.at, n, to, errno, c.n, c.to, c.errno)
		}
	}
}

func TestReadUintOfUint(t *testing.T) {
	for _, n := range edgeNumbers() {
		b := octets.Uint(n)
		amid := append(append([]byte{0xff, 0x80, 0}, b...), 0x80, 0)
		if got, to, errno := octets.ReadUint(b, 0); got != n || to != len(b) || errno != api.OK {
			t.Errorf("P1.5: ReadUint(Uint(%d)) = %d, %d, %d", n, got, to, errno)
		}
		if got, to, errno := octets.ReadUint(amid, 3); got != n || to != 3+len(b) || errno != api.OK {
			t.Errorf("P1.5: amid others: ReadUint(Uint(%d)) = %d, %d, %d", n, got, to, errno)
		}
		for cut := range len(b) {
			if got, to, errno := octets.ReadUint(b[:cut], 0); got != 0 || to != cut || errno != api.ErrShort {
				t.Errorf("P1.1: Uint(%d) cut to %d bytes: %d, %d, %d", n, cut, got, to, errno)
			}
		}
	}
}

// TestTakenIsShortest: all texts of up to two bytes, and those of up to eleven that are made of the bytes that matter.
func TestTakenIsShortest(t *testing.T) {
	for i := range 1 << 16 {
		checkTaken(t, []byte{byte(i)})
		checkTaken(t, []byte{byte(i), byte(i >> 8)})
	}
	for size := 3; size <= 11; size++ {
		for i := range 1 << 12 {
			b := make([]byte, size)
			for k := range b {
				b[k] = "\x80\xff\x81\xc0"[i>>(k%3)&3]
			}
			b[size-1] = "\x00\x01\x02\x7f\x80\x81\xfe\xff"[i>>3&7]
			if i>>6&1 == 1 {
				b[i>>7%size] = "\x00\x01\x02\x7f"[i>>10&3]
			}
			checkTaken(t, b)
		}
	}
}

func checkTaken(t *testing.T, b []byte) {
	t.Helper()
	n, to, errno := octets.ReadUint(b, 0)
	want, size := binary.Uvarint(b)
	shortest := size > 0 && bytes.Equal(b[:size], binary.AppendUvarint(nil, want))
	switch {
	case shortest:
		if n != want || to != size || errno != api.OK || !bytes.Equal(octets.Uint(n), b[:to]) {
			t.Errorf("P1.5: ReadUint(% x) = %d, %d, %d, want %d, %d", b, n, to, errno, want, size)
		}
	case size == 0 && len(b) < 10:
		if n != 0 || to != len(b) || errno != api.ErrShort {
			t.Errorf("P1.1: ReadUint(% x) = %d, %d, %d, want ErrShort", b, n, to, errno)
		}
	default:
		if n != 0 || to != 0 || errno != api.ErrNumber {
			t.Errorf("P1.5: ReadUint(% x) = %d, %d, %d, want ErrNumber", b, n, to, errno)
		}
	}
}

func TestTextBytes(t *testing.T) {
	for _, c := range []struct {
		s    string
		want []byte
	}{
		{"", []byte{0}},
		{"ab", []byte{2, 'a', 'b'}},
		{"\x00\xff", []byte{2, 0, 0xff}},
		{"é", []byte{2, 0xc3, 0xa9}},
		{strings.Repeat("x", 127), append([]byte{127}, repeated('x', 127)...)},
		{strings.Repeat("x", 300), append([]byte{0xac, 2}, repeated('x', 300)...)},
	} {
		if got := octets.Text(c.s); !bytes.Equal(got, c.want) {
			t.Errorf("P1.2: Text(%q) = % x, want % x", c.s, got, c.want)
		}
	}
}

func TestReadTextAnswers(t *testing.T) {
	for _, c := range []struct {
		why   string
		b     []byte
		at    int
		s     string
		to    int
		errno api.Errno
	}{
		{"empty text", []byte{0}, 0, "", 1, api.OK},
		{"just enough", []byte{2, 'a', 'b'}, 0, "ab", 3, api.OK},
		{"more behind", []byte{1, 'a', 'b'}, 0, "a", 2, api.OK},
		{"from a place on", []byte{9, 1, 'x'}, 1, "x", 3, api.OK},
		{"any bytes", []byte{3, 0, 0xff, 0x80}, 0, "\x00\xff\x80", 4, api.OK},
		{"empty text at the end", []byte{7, 0}, 1, "", 2, api.OK},

		{"below 0", []byte{0}, -1, "", -1, api.ErrArg},
		{"above the length", []byte{0}, 2, "", 2, api.ErrArg},
		{"far above the length", nil, math.MaxInt, "", math.MaxInt, api.ErrArg},
		{"far below 0", nil, math.MinInt, "", math.MinInt, api.ErrArg},
		{"no length", nil, 0, "", 0, api.ErrShort},
		{"no length at the end", []byte{0}, 1, "", 1, api.ErrShort},
		{"a length that ends early", []byte{0, 0x82}, 1, "", 2, api.ErrShort},
		{"a length in a longer form", []byte{0, 0x82, 0, 'a', 'b'}, 1, "", 1, api.ErrNumber},
		{"a length too great", repeated(0xff, 9, 2), 0, "", 0, api.ErrNumber},

		{"one byte too few", []byte{2, 'a'}, 0, "", 2, api.ErrShort},
		{"four bytes too few", []byte{5, 'a'}, 0, "", 2, api.ErrShort},
		{"bytes ahead do not count", []byte{'a', 'a', 2, 'a'}, 2, "", 4, api.ErrShort},
		{"the greatest length", repeated(0xff, 9, 1, 'a'), 0, "", 11, api.ErrShort},
		{"a length of 2^63", repeated(0x80, 9, 1, 'a'), 0, "", 11, api.ErrShort},
		{"a length of 2^63 - 1", append(repeated(0xff, 8, 0x7f), 'a'), 0, "", 10, api.ErrShort},
		{"a length of 2^32", []byte{0x80, 0x80, 0x80, 0x80, 0x10}, 0, "", 5, api.ErrShort},
	} {
		s, to, errno := octets.ReadText(c.b, c.at)
		if s != c.s || to != c.to || errno != c.errno {
			t.Errorf("P1.2, P4: %s: ReadText(% x, %d) = %q, %d, %d, want %q, %d, %d", c.why, c.b, c.at, s, to, errno, c.s, c.to, c.errno)
		}
	}
}

func TestReadTextOfText(t *testing.T) {
	for _, size := range []int{0, 1, 2, 127, 128, 129, 16383, 16384, 1 << 20} {
		s := string(sample(uint32(size), size))
		b := octets.Text(s)
		amid := append(append([]byte{0x80, 0}, b...), 0xff)
		if got, to, errno := octets.ReadText(b, 0); got != s || to != len(b) || errno != api.OK {
			t.Errorf("P1.5: a text of %d bytes: %d, %d", size, to, errno)
		}
		if got, to, errno := octets.ReadText(amid, 2); got != s || to != 2+len(b) || errno != api.OK {
			t.Errorf("P1.5: a text of %d bytes amid others: %d, %d", size, to, errno)
		}
		if got, to, errno := octets.ReadText(b[:len(b)-1], 0); got != "" || to != len(b)-1 || errno != api.ErrShort {
			t.Errorf("P1.2: a text of %d bytes, cut: %d, %d", size, to, errno)
		}
	}
}

func TestSequence(t *testing.T) {
	var b []byte
	texts := []string{"", "anna", "\xff", strings.Repeat("é", 200)}
	for i, s := range texts {
		b = append(append(b, octets.Uint(uint64(i)<<20)...), octets.Text(s)...)
	}
	at := 0
	for i, s := range texts {
		n, to, errno := octets.ReadUint(b, at)
		if n != uint64(i)<<20 || errno != api.OK {
			t.Fatalf("P1.5: number %d: %d, %d", i, n, errno)
		}
		var got string
		if got, at, errno = octets.ReadText(b, to); got != s || errno != api.OK {
			t.Fatalf("P1.5: text %d: %q, %d", i, got, errno)
		}
	}
	if at != len(b) {
		t.Errorf("P1.5: the end is %d, want %d", at, len(b))
	}
}
