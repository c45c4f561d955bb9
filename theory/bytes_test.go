package theory_test

import (
	"slices"
	"testing"

	"lexprior/api"
)

// houseBytes: those of house, laid out by hand.
func houseBytes() []byte {
	return []byte{
		't', 'h', 'y', 1,
		6,
		2, 1, 2, 1, 2, 0, 1, 4, 0, 0, // foes above 0, 1, .., 5
		7,
		1, 0, 1, 5, // its rules
		2, 1, 2, 3, 5,
		3, 2, 0,
		2, 3, 1, 0,
		2, 4, 3, 1, 2, 5,
		1, 5, 0,
		2, 1, 0,
		3, 1, 2, 6, // and what each beats
		1, 2,
		1, 6,
		1, 4,
		0, 0, 0,
	}
}

// The places in houseBytes.
const (
	foesAt  = 5
	rulesAt = 15
	beatsAt = 44
	endAt   = 57
)

func TestBytes(t *testing.T) {
	wantEncode(t, house(), houseBytes(), api.OK)
	wantDecode(t, "house", houseBytes(), house(), api.OK, endAt)
	wantEncode(t, api.Theory{}, []byte("thy\x01\x00\x00"), api.OK)
	wantDecode(t, "nothing", []byte("thy\x01\x00\x00"), api.Theory{}, api.OK, 6)
	wantEncode(t, plain(2), []byte("thy\x01\x02\x00\x00\x00"), api.OK)
	wantDecode(t, "no rules", []byte("thy\x01\x02\x00\x00\x00"), plain(2), api.OK, 8)
}

// TestLongNumbers: those from 128 on have two bytes.
func TestLongNumbers(t *testing.T) {
	x := plain(300, rule(299, 127, 128, 298), rule(128))
	enemies(&x, 128, 299)
	x.Beats[0] = []int{1}
	b := append([]byte("thy\x01"), 0xAC, 0x02)
	b = append(b, make([]byte, 128)...)
	b = append(b, 1, 0xAB, 0x02)
	b = append(b, make([]byte, 171)...)
	b = append(b, 2, 2, 0xAB, 0x02, 3, 127, 0x80, 0x01, 0xAA, 0x02, 2, 0x80, 0x01, 0, 1, 1, 0)
	wantEncode(t, x, b, api.OK)
	wantDecode(t, "long numbers", b, x, api.OK, len(b))
}

// TestCut: at each place, whatever would stand behind.
func TestCut(t *testing.T) {
	b := houseBytes()
	for n := range len(b) {
		wantDecode(t, "cut", b[:n], api.Theory{}, api.ErrShort, n)
		errno, at := api.ErrShort, n+1
		if n < 4 {
			errno, at = api.ErrArg, n
		}
		wantDecode(t, "cut behind a byte that goes on", append(slices.Clone(b[:n]), 0x80), api.Theory{}, errno, at)
	}
}

func TestMark(t *testing.T) {
	for at := range 4 {
		for _, c := range []byte{0, 1, 2, 't', 'h', 'y', 'T', 0x80, 0xFF, '1'} {
			b := houseBytes()
			if b[at] == c {
				continue
			}
			b[at] = c
			wantDecode(t, "another byte", b, api.Theory{}, api.ErrArg, at)
			wantDecode(t, "another byte, then the end", b[:at+1], api.Theory{}, api.ErrArg, at)
			b[min(at+1, 3)] = c
			wantDecode(t, "two other bytes", b, api.Theory{}, api.ErrArg, at)
		}
	}
}

func TestTail(t *testing.T) {
	for _, tail := range [][]byte{{0}, {1}, {0x80}, {0x80, 0}, {0xFF}, houseBytes()} {
		wantDecode(t, "bytes behind", append(houseBytes(), tail...), api.Theory{}, api.ErrTail, endAt)
		wantDecode(t, "bytes behind", append([]byte("thy\x01\x00\x00"), tail...), api.Theory{}, api.ErrTail, 6)
	}
}

// TestNotShortest: each number of house, written longer than it need be, or greater than any.
func TestNotShortest(t *testing.T) {
	b := houseBytes()
	for at := 4; at < len(b); at++ {
		for _, long := range [][]byte{{b[at] | 0x80, 0}, {b[at] | 0x80, 0x80, 0}, {0x80, 0}, {0xFF, 0x80, 0x80, 0x80, 0x80, 0x80, 0x80, 0x80, 0x80, 0}, slices.Repeat([]byte{0xFF}, 10), append(slices.Repeat([]byte{0x80}, 9), 2)} {
			wantDecode(t, "not the shortest form", slices.Concat(b[:at], long, b[at+1:]), api.Theory{}, api.ErrNumber, at)
			wantDecode(t, "not the shortest form, then the end", slices.Concat(b[:at], long), api.Theory{}, api.ErrNumber, at)
			wantDecode(t, "no end of a number", slices.Concat(b[:at], long[:len(long)-1]), api.Theory{}, api.ErrShort, at+len(long)-1)
		}
	}
}

// number: its shortest form, by division.
func number(n uint64) []byte {
	var b []byte
	for n > 127 {
		b = append(b, byte(n%128)+128)
		n /= 128
	}
	return append(b, byte(n))
}

// bad is a number of house by its place, and what it may not be.
type bad struct {
	at    int
	errno api.Errno
	least uint64 // it and all above are refused
	below []byte // and these
}

func bads() []bad {
	all := []bad{{4, api.ErrCount, 4097, nil}}
	foes := func(at int, below ...byte) { all = append(all, bad{at, api.ErrFoe, 6, below}) }
	for _, at := range []int{foesAt, 8, 10, 11, 13, 14} {
		all = append(all, bad{at, api.ErrCount, 65, nil})
	}
	foes(6, 0)
	foes(7, 0, 1)
	foes(9, 0, 1)
	foes(12, 0, 1, 2, 3)
	all = append(all, bad{rulesAt, api.ErrCount, 4097, nil})
	rules := func(kind int, body ...[]byte) {
		all = append(all, bad{kind, api.ErrRule, 4, []byte{0}}, bad{kind + 1, api.ErrRule, 6, nil}, bad{kind + 2, api.ErrCount, 17, nil})
		for n, below := range body {
			all = append(all, bad{kind + 3 + n, api.ErrRule, 6, below})
		}
	}
	rules(16, nil)
	rules(20, nil, []byte{0, 1, 2, 3})
	rules(25)
	rules(28, nil)
	rules(32, nil, []byte{0, 1}, []byte{0, 1, 2})
	rules(38)
	rules(41)
	for _, at := range []int{beatsAt, 48, 50, 52, 54, 55, 56} {
		all = append(all, bad{at, api.ErrCount, 4097, nil})
	}
	beats := func(at int, below ...byte) { all = append(all, bad{at, api.ErrBeat, 7, below}) }
	beats(45)
	beats(46, 0, 1)
	beats(47, 0, 1, 2)
	beats(49)
	beats(51)
	beats(53)
	slices.SortFunc(all, func(a, b bad) int { return a.at - b.at })
	return all
}

// versions: all bytes in which this number is refused.
func (w bad) versions() [][]byte {
	var all [][]byte
	b := houseBytes()
	for _, n := range w.below {
		all = append(all, slices.Concat(b[:w.at], []byte{n}, b[w.at+1:]))
	}
	for _, n := range []uint64{w.least, w.least + 1, w.least + 128, 1 << 20, 1 << 31, 1 << 32, 1<<32 + 1, 1<<63 - 1, 1 << 63, 1<<63 + 1, 1<<64 - 1} {
		all = append(all, slices.Concat(b[:w.at], number(n), b[w.at+1:]))
	}
	return all
}

// TestBadNumbers: each number of house has its own limit; what stands behind it is not looked at.
func TestBadNumbers(t *testing.T) {
	all := bads()
	if len(all) != endAt-4 {
		t.Fatalf("%d numbers are tried, of %d", len(all), endAt-4)
	}
	for n, w := range all {
		if w.at != 4+n {
			t.Fatalf("the number at %d is tried as number %d", w.at, n)
		}
		for _, b := range w.versions() {
			wantDecode(t, "a bad number", b, api.Theory{}, w.errno, w.at)
			wantDecode(t, "a bad number and bytes behind", append(slices.Clone(b), 9, 9), api.Theory{}, w.errno, w.at)
		}
	}
}

// TestTwoBadNumbers: the first one is told.
func TestTwoBadNumbers(t *testing.T) {
	all := bads()
	for i, first := range all {
		for j, second := range all[i+1:] {
			ones, others := first.versions(), second.versions()
			one, other := ones[(i+j)%len(ones)], others[(i+2*j)%len(others)]
			// Behind the first one's own number the second one's bytes go on.
			b := slices.Concat(one[:len(one)-(endAt-first.at-1)], other[first.at+1:])
			wantDecode(t, "two bad numbers", b, api.Theory{}, first.errno, first.at)
		}
	}
}

// TestReadButMayNotBe: bytes whose numbers are all in their ranges, of a theory that Check refuses; the place is 0.
func TestReadButMayNotBe(t *testing.T) {
	change := func(at int, to ...byte) []byte {
		b := houseBytes()
		return slices.Concat(b[:at], to, b[at+len(to):])
	}
	wantDecode(t, "a rule beats itself", change(49, 1), api.Theory{}, api.ErrBeat, 0)
	wantDecode(t, "a rule beats one that is no foe's", change(51, 5), api.Theory{}, api.ErrBeat, 0)
	wantDecode(t, "of three the last is no foe's", change(45, 1, 2, 3), api.Theory{}, api.ErrBeat, 0)
	wantDecode(t, "a circle of two", change(49, 0), api.Theory{}, api.ErrPriorityCycle, 0)
	wantDecode(t, "a circle from behind", change(51, 0), api.Theory{}, api.ErrPriorityCycle, 0)
	wantDecode(t, "the rule 3 beats itself", change(53, 3), api.Theory{}, api.ErrBeat, 0)
	b := houseBytes()
	wantDecode(t, "a circle behind", slices.Concat(b[:54], []byte{1, 3}, b[55:]), api.Theory{}, api.ErrPriorityCycle, 0)
	wantDecode(t, "a circle, and bytes behind", append(change(49, 0), 0), api.Theory{}, api.ErrTail, endAt)
	wantDecode(t, "a circle, and too few bytes", change(49, 0)[:56], api.Theory{}, api.ErrShort, 56)
}
