package wire_test

import (
	"slices"
	"testing"

	"lexprior/api"
)

// TestBytes: laid out by hand.
func TestBytes(t *testing.T) {
	wantTaken(t, "house", house(), summed(houseBytes()))
	for _, c := range []struct{ steps, bytes string }{
		{"+D 0 fact", "01  01 00 01 00 00"},
		{"+D 0 rule 0", "01  01 00 02 01 00"},
		{"-D 1 none / 0 -1", "01  02 01 03 00 01 01 00"},
		{"+d 4095 rule 4095 / -1 4095", "01  03 FF1F 02 8020 01 00 8020"},
		{"-d 128 strict 127", "01  04 8001 04 8001 00"},
		{"-d 127 beaten 126", "01  04 7F 05 7F 00"},
		{"-d 2 beaten 3 / 15 -1 / 0 -1", "01  04 02 05 04 02 10 00 01 00"},
		{"+D 7 fact; +D 7 fact", "02  01 07 01 00 00  01 07 01 00 00"},
		{"+D 1 fact; +d 1 strict; -d 0 strict 1", "03  01 01 01 00 00  03 01 04 00 00  04 00 04 02 00"},
	} {
		wantTaken(t, c.steps, steps(c.steps), summed(unhex("6C786401"+c.bytes)))
	}
}

// TestLongNumbers: from 128 on a number has two bytes, and three from 16384 on.
func TestLongNumbers(t *testing.T) {
	for _, c := range []struct {
		many  int
		count string
	}{{127, "7F"}, {128, "8001"}, {300, "AC02"}, {16383, "FF7F"}, {16384, "808001"}, {65535, "FFFF03"}, {65536, "808004"}} {
		b := append(unhex("6C786401"+c.count), slices.Repeat(unhex("0100010000"), c.many)...)
		wantTaken(t, "so many steps", slices.Repeat(steps("+D 0 fact"), c.many), summed(b))
	}
	for _, c := range []struct {
		many  int
		count string
	}{{1, "01"}, {127, "7F"}, {128, "8001"}, {4095, "FF1F"}, {4096, "8020"}} {
		l := steps("-D 5 none")
		l[0].Choices = slices.Repeat([]api.Choice{{Place: 2, Rule: -1}}, c.many)
		b := append(unhex("6C786401 01 02 05 03 00"+c.count), slices.Repeat(unhex("0300"), c.many)...)
		wantTaken(t, "so many choices", l, summed(b))
	}
}

// TestEachBeginning: of bytes that are right ends too early; so does one with another byte behind it that goes on.
func TestEachBeginning(t *testing.T) {
	wantFault(t, "nil", nil, api.ErrShort, 0)
	wantFault(t, "no bytes", []byte{}, api.ErrShort, 0)
	for _, l := range [][]api.Step{nil, house(), steps("+D 0 fact"), steps("-D 5 none / 3 -1"), slices.Repeat(house(), 40)} {
		b := modelBytes(l)
		for n := range b {
			wantFault(t, "a beginning", b[:n], api.ErrShort, n)
		}
	}
}

// TestBegin: another byte in the beginning; behind it there may be anything.
func TestBegin(t *testing.T) {
	right := summed(houseBytes())
	for at := range 4 {
		for c := range 256 {
			b := slices.Clone(right)
			if b[at] == byte(c) {
				continue
			}
			b[at] = byte(c)
			wantFault(t, "another byte", b, api.ErrWire, at)
			wantFault(t, "another byte, and another sum", summed(b[:len(b)-4]), api.ErrWire, at)
			wantFault(t, "another byte, then the end", b[:at+1], api.ErrWire, at)
			b[3] = 0xFF
			wantFault(t, "two other bytes", b, api.ErrWire, at)
		}
	}
	wantFault(t, "the beginning of a theory", []byte("thy\x01\x00"), api.ErrWire, 0)
	wantFault(t, "capitals", []byte("LXD\x01\x00"), api.ErrWire, 0)
	wantFault(t, "another form", summed([]byte("lxd\x02\x00")), api.ErrWire, 3)
}

// wrong is a part that is told wrong, and for what that is refused.
type wrong struct {
	b     []byte
	errno api.Errno
}

// wrongs: all that can be wrong about a part.
func wrongs(p part) []wrong {
	var all []wrong
	least, most := p.kind.bounds()
	if p.isByte() {
		for c := range 256 {
			if n := uint64(c); p.kind == begin && n != p.n || p.kind != begin && (n < least || n > most) {
				all = append(all, wrong{[]byte{byte(c)}, api.ErrWire})
			}
		}
		return all
	}
	for _, n := range []uint64{most + 1, most + 2, most + 128, 2*most + 1, 65537, 1<<31 - 1, 1 << 31, 1<<32 - 1, 1 << 32, 1<<32 + p.n, 1<<63 - 1, 1 << 63, 1<<63 + p.n, 1<<64 - 2, 1<<64 - 1} {
		all = append(all, wrong{part{p.kind, n}.bytes(), api.ErrWire})
	}
	short := p.bytes()
	last := len(short) - 1
	for _, long := range [][]byte{
		append(slices.Clone(short[:last]), short[last]|0x80, 0), append(slices.Clone(short[:last]), short[last]|0x80, 0x80, 0),
		unhex("8000"), unhex("FF00"), unhex("FFFFFFFFFFFFFFFFFF00"), unhex("FFFFFFFFFFFFFFFFFF02"), unhex("80808080808080808002"),
		unhex("80808080808080808080"), unhex("FFFFFFFFFFFFFFFFFFFF"), unhex("8080808080808080808001"),
	} {
		all = append(all, wrong{long, api.ErrNumber})
	}
	return all
}

// TestWrongNumbers: each part of house, whatever stands behind it: all that is right, with the sum of it or the old one; nothing; what is no sum.
func TestWrongNumbers(t *testing.T) {
	all := parts(house())
	right, places := laid(all)
	for n, p := range all {
		ahead, behind := right[:places[n]], right[places[n]+len(p.bytes()):]
		for _, w := range wrongs(p) {
			b := slices.Concat(ahead, w.b, behind)
			wantFault(t, "a part with its sum", summed(b), w.errno, places[n])
			wantFault(t, "a part with the old sum", slices.Concat(b, summed(right)[len(right):]), w.errno, places[n])
			wantFault(t, "a part, then the end", slices.Concat(ahead, w.b), w.errno, places[n])
			wantFault(t, "a part, then others", slices.Concat(ahead, w.b, unhex("FFFFFF")), w.errno, places[n])
			if w.errno == api.ErrNumber {
				wantFault(t, "a number that doesn't end", slices.Concat(ahead, w.b[:min(len(w.b), 10)-1]), api.ErrShort, len(ahead)+min(len(w.b), 10)-1)
			}
		}
	}
}

// TestTwoWrongNumbers: the one further left is told.
func TestTwoWrongNumbers(t *testing.T) {
	all := parts(house())
	right, places := laid(all)
	for n, p := range all {
		for k := n + 1; k < len(all); k++ {
			between, behind := right[places[n]+len(p.bytes()):places[k]], right[places[k]+len(all[k].bytes()):]
			for i, w := range wrongs(p) {
				others := wrongs(all[k])
				b := slices.Concat(right[:places[n]], w.b, between, others[i%len(others)].b, behind)
				wantFault(t, "two parts", b, w.errno, places[n])
				wantFault(t, "two parts and the sum", summed(b), w.errno, places[n])
			}
		}
	}
}

// TestSum: another sum is told at its place, whatever is behind it; one that is cut is too short, whatever it says.
func TestSum(t *testing.T) {
	for _, l := range [][]api.Step{nil, house(), steps("+D 0 fact")} {
		right := modelBytes(l)
		at := len(right) - 4
		for i := range 4 {
			for turned := 1; turned < 256; turned++ {
				b := slices.Clone(right)
				b[at+i] ^= byte(turned)
				wantFault(t, "another sum", b, api.ErrSum, at)
				wantFault(t, "another sum and bytes behind", append(b, 0, 1, 2), api.ErrSum, at)
				wantFault(t, "another sum and the right one", slices.Concat(b, right[at:]), api.ErrSum, at)
				for cut := at; cut < len(b); cut++ {
					wantFault(t, "a sum that is cut", b[:cut], api.ErrShort, cut)
				}
			}
		}
		back := slices.Clone(right)
		slices.Reverse(back[at:])
		wantFault(t, "the highest first", back, api.ErrSum, at)
		wantFault(t, "no sum but 0", slices.Concat(right[:at], make([]byte, 4)), api.ErrSum, at)
		wantFault(t, "the sum of all but the beginning", slices.Concat(right[:at], summed(right[4:at])[at-4:]), api.ErrSum, at)
		wantFault(t, "a sum of more", slices.Concat(right[:at], summed(right)[len(right):]), api.ErrSum, at)
	}
}

// TestOtherNumbersOldSum: where all is right but that the sum is one of other steps.
func TestOtherNumbersOldSum(t *testing.T) {
	right, sum := houseBytes(), summed(houseBytes())[len(houseBytes()):]
	for _, c := range changes() {
		for at := range house() {
			l := house()
			c.turn(&l[at])
			if !c.may || sameSteps(l, house()) {
				continue
			}
			b, _ := laid(parts(l))
			wantFault(t, c.what, slices.Concat(b, sum), api.ErrSum, len(b))
			wantFault(t, c.what, slices.Concat(right, summed(b)[len(b):]), api.ErrSum, len(right))
		}
	}
}

// TestTail: more bytes, whatever they are.
func TestTail(t *testing.T) {
	for _, l := range [][]api.Step{nil, house(), steps("+D 0 fact")} {
		right := modelBytes(l)
		for c := range 256 {
			wantFault(t, "a byte behind", append(slices.Clone(right), byte(c)), api.ErrTail, len(right))
		}
		for _, tail := range [][]byte{{0, 0, 0, 0}, unhex("8000"), unhex("FFFFFFFFFFFFFFFFFFFF"), right, right[len(right)-4:], right[len(right)-5:], make([]byte, 5000)} {
			wantFault(t, "bytes behind", slices.Concat(right, tail), api.ErrTail, len(right))
			wantFault(t, "bytes behind and their sum", summed(slices.Concat(right, tail)), api.ErrTail, len(right))
		}
	}
}

// TestEachByteTurned: to each other byte, with the old sum: it is refused as the chapter says, and never taken.
func TestEachByteTurned(t *testing.T) {
	for _, l := range [][]api.Step{nil, house(), steps("+D 0 fact"), steps("-D 5 none / 3 -1; +d 200 rule 200 / -1 130")} {
		right := modelBytes(l)
		for at := range right {
			for turned := 1; turned < 256; turned++ {
				b := slices.Clone(right)
				b[at] ^= byte(turned)
				_, errno, place := modelDecode(b)
				if errno == api.OK {
					t.Fatalf("the model takes %s", digits(b))
				}
				wantFault(t, "a byte turned", b, errno, place)
			}
		}
	}
}

// TestManySteps: more than there are, more than there may be.
func TestManySteps(t *testing.T) {
	one := unhex("0100010000")
	for _, c := range []struct {
		count string
		errno api.Errno
		at    int
	}{
		{"808004", api.ErrShort, 12}, {"818004", api.ErrWire, 4}, {"FFFF07", api.ErrWire, 4}, {"80808010", api.ErrWire, 4},
		{"80808080808080808001", api.ErrWire, 4}, {"FFFFFFFFFFFFFFFFFF01", api.ErrWire, 4}, {"FFFFFFFFFFFFFFFFFF02", api.ErrNumber, 4}, {"81808000", api.ErrNumber, 4},
	} {
		wantFault(t, "a number of steps", slices.Concat(unhex("6C786401"+c.count), one), c.errno, c.at)
	}
	wantFault(t, "as many as there may be, and none there", unhex("6C786401808004"), api.ErrShort, 7)
	wantFault(t, "one step for two", slices.Concat(unhex("6C78640102"), one), api.ErrShort, 10)
	wantFault(t, "one step for two, and a sum", summed(slices.Concat(unhex("6C78640102"), one)), api.ErrWire, 10) // its first byte is no Tag
	all := slices.Concat(unhex("6C786401818004"), slices.Repeat(one, 65537))
	wantFault(t, "one too many, all there", summed(all), api.ErrWire, 4)
}
