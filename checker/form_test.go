package checker_test

import (
	"slices"
	"testing"

	"lexprior/api"
	"lexprior/checker"
	"lexprior/wire"
)

// manor: a derivation whose bytes have all that there can be: numbers of one byte and of two, places, rules that beat.
func manor() (api.Theory, []int, []api.Step) {
	x := plain(300)
	for r := range 150 {
		x.Rules = append(x.Rules, rule(api.Defeasible, 100+r, r))
	}
	x.Beats = make([][]int, 150)
	enemies(&x, 248, 249)
	insert(&x.Beats[149], 148)
	return x, lits(148, 149), steps(`+D 149 fact; +d 149 strict; -D 248 none; +d 249 rule 149 / -1 149; -d 248 beaten 149;
		-D 147 none; -D 47 none; -d 47 none; -d 147 none / 0 -1; -D 247 none; -d 247 none / 0 -1`)
}

// manorBytes: those of manor ahead of their sum, laid out by hand.
func manorBytes() []byte {
	return unhex(`6C786401 0B
		01 9501 01 00   00
		03 9501 04 00   00
		02 F801 03 00   00
		03 F901 02 9601 01  00 9601
		04 F801 05 9601 00
		02 9301 03 00   00
		02 2F   03 00   00
		04 2F   03 00   00
		04 9301 03 00   01  01 00
		02 F701 03 00   00
		04 F701 03 00   01  01 00`)
}

// wantForm: the bytes are refused for their form, as by chapter 21; by a theory of which no step follows but one.
func wantForm(t testing.TB, what string, b []byte, errno api.Errno, at int) {
	t.Helper()
	x, facts := plain(1), lits(0)
	if l, got, place := wire.Decode(b); len(l) > 0 || got != errno || place != at {
		t.Errorf("%s: Decode(%s): %d, %d, want %d, %d", what, digits(b), got, place, errno, at)
	}
	if c, got, place := checker.Check(x, facts, b); c != (checker.Claim{}) || got != errno || place != at {
		t.Errorf("P22.1: %s: Check(%s): %+v, %d, %d, want nothing, %d, %d", what, digits(b), c, got, place, errno, at)
	}
	if said, got, place := checker.Shown(x, facts, b); len(said) > 0 || got != errno || place != at {
		t.Errorf("P22.1: %s: Shown(%s): %s, %d, %d, want nothing, %d, %d", what, digits(b), told(said), got, place, errno, at)
	}
}

func TestManor(t *testing.T) {
	x, facts, l := manor()
	if b := modelBytes(l); !slices.Equal(b, summed(manorBytes())) {
		t.Fatalf("%s", digits(b))
	}
	wantTaken(t, "manor", x, facts, l)
}

// TestEachBeginning: of bytes that are right ends too early.
func TestEachBeginning(t *testing.T) {
	right := summed(manorBytes())
	for n := range right {
		wantForm(t, "a beginning", right[:n], api.ErrShort, n)
	}
}

// TestBegin: another byte in the beginning; behind it there may be anything.
func TestBegin(t *testing.T) {
	right := summed(manorBytes())
	for at := range 4 {
		for c := range 256 {
			b := slices.Clone(right)
			if b[at] == byte(c) {
				continue
			}
			b[at] = byte(c)
			wantForm(t, "another byte", b, api.ErrWire, at)
			wantForm(t, "another byte, and its sum", summed(b[:len(b)-4]), api.ErrWire, at)
			wantForm(t, "another byte, then the end", b[:at+1], api.ErrWire, at)
		}
	}
	wantForm(t, "the beginning of a theory", []byte("thy\x01\x00"), api.ErrWire, 0)
	wantForm(t, "another form", summed([]byte("lxd\x02\x00")), api.ErrWire, 3)
}

// wrong is a part that is told wrong, and for what that is refused.
type wrong struct {
	b     []byte
	errno api.Errno
}

// wrongs: all that can be wrong about a part.
func wrongs(p part) []wrong {
	var all []wrong
	least, most := p.kind.bounds()
	if p.isByte() {
		for c := range 256 {
			if n := uint64(c); p.kind == begin && n != p.n || p.kind != begin && (n < least || n > most) {
				all = append(all, wrong{[]byte{byte(c)}, api.ErrWire})
			}
		}
		return all
	}
	for _, n := range []uint64{most + 1, most + 2, most + 128, 65537, 1<<31 - 1, 1 << 31, 1<<32 - 1, 1 << 32, 1<<32 + p.n, 1<<63 - 1, 1 << 63, 1<<63 + p.n, 1<<64 - 2, 1<<64 - 1} {
		all = append(all, wrong{part{p.kind, n}.bytes(), api.ErrWire})
	}
	short := p.bytes()
	last := len(short) - 1
	for _, long := range [][]byte{
		append(slices.Clone(short[:last]), short[last]|0x80, 0), append(slices.Clone(short[:last]), short[last]|0x80, 0x80, 0),
		unhex("8000"), unhex("FF00"), unhex("FFFFFFFFFFFFFFFFFF02"), unhex("80808080808080808080"), unhex("FFFFFFFFFFFFFFFFFFFF"), unhex("8080808080808080808001"),
	} {
		all = append(all, wrong{long, api.ErrNumber})
	}
	return all
}

// TestWrongNumbers: each part of manor, whatever stands behind it: all that is right, with the sum of it or the old one; nothing; what is no sum.
func TestWrongNumbers(t *testing.T) {
	_, _, l := manor()
	all := parts(l)
	right, places := laid(all)
	for n, p := range all {
		ahead, behind := right[:places[n]], right[places[n]+len(p.bytes()):]
		for _, w := range wrongs(p) {
			b := slices.Concat(ahead, w.b, behind)
			wantForm(t, "a part with its sum", summed(b), w.errno, places[n])
			wantForm(t, "a part with the old sum", slices.Concat(b, summed(right)[len(right):]), w.errno, places[n])
			wantForm(t, "a part, then the end", slices.Concat(ahead, w.b), w.errno, places[n])
			if w.errno == api.ErrNumber {
				cut := slices.Concat(ahead, w.b[:min(len(w.b), 10)-1])
				wantForm(t, "a number that doesn't end", cut, api.ErrShort, len(cut))
			}
		}
	}
}

// TestTwoWrongNumbers: the one further left is told.
func TestTwoWrongNumbers(t *testing.T) {
	_, _, l := manor()
	all := parts(l[:4])
	right, places := laid(all)
	for n, p := range all {
		for k := n + 1; k < len(all); k++ {
			between, behind := right[places[n]+len(p.bytes()):places[k]], right[places[k]+len(all[k].bytes()):]
			for i, w := range wrongs(p) {
				others := wrongs(all[k])
				wantForm(t, "two parts", summed(slices.Concat(right[:places[n]], w.b, between, others[i%len(others)].b, behind)), w.errno, places[n])
			}
		}
	}
}

// TestEdgesOfNumbers: each part as the least and the most that it may be: what is told then is no fault of the form, but of a step.
func TestEdgesOfNumbers(t *testing.T) {
	x, facts, l := manor()
	seen := tally{}
	for n, p := range parts(l) {
		if p.kind == begin || p.kind == countOfSteps || p.kind == countOfChoices {
			continue
		}
		least, most := p.kind.bounds()
		for _, told := range []uint64{least, least + 1, most - 1, most} {
			all := parts(l)
			all[n].n = told
			b, _ := laid(all)
			if errno := wantAsModel(t, "an edge", x, facts, summed(b)); errno == api.ErrClaim {
				seen["refused"]++
			} else if errno != api.OK {
				t.Errorf("P22.1: Check(%s): %d", digits(summed(b)), errno)
			}
		}
	}
	seen.want(t, 70, "refused")
}

// TestSum: another sum is told at its place, whatever is behind it; one that is cut is too short, whatever it says.
func TestSum(t *testing.T) {
	_, _, l := manor()
	for _, l := range [][]api.Step{nil, l, steps("-D 0 none")} {
		right := modelBytes(l)
		at := len(right) - 4
		for i := range 4 {
			for turned := 1; turned < 256; turned++ {
				b := slices.Clone(right)
				b[at+i] ^= byte(turned)
				wantForm(t, "another sum", b, api.ErrSum, at)
				wantForm(t, "another sum and bytes behind", append(b, 0, 1, 2), api.ErrSum, at)
				for cut := at; cut < len(b); cut++ {
					wantForm(t, "a sum that is cut", b[:cut], api.ErrShort, cut)
				}
			}
		}
		back := slices.Clone(right)
		slices.Reverse(back[at:])
		wantForm(t, "the highest first", back, api.ErrSum, at)
		wantForm(t, "no sum but 0", slices.Concat(right[:at], make([]byte, 4)), api.ErrSum, at)
		wantForm(t, "the sum of all but the beginning", slices.Concat(right[:at], summed(right[4:at])[at-4:]), api.ErrSum, at)
		wantForm(t, "a sum of more", slices.Concat(right[:at], summed(right)[len(right):]), api.ErrSum, at)
	}
}

// TestTail: more bytes, whatever they are.
func TestTail(t *testing.T) {
	right := summed(manorBytes())
	for c := range 256 {
		wantForm(t, "a byte behind", append(slices.Clone(right), byte(c)), api.ErrTail, len(right))
	}
	for _, tail := range [][]byte{{0, 0, 0, 0}, unhex("8000"), right, right[len(right)-4:], right[len(right)-5:], make([]byte, 5000)} {
		wantForm(t, "bytes behind", slices.Concat(right, tail), api.ErrTail, len(right))
		wantForm(t, "bytes behind and their sum", summed(slices.Concat(right, tail)), api.ErrTail, len(right))
	}
}

// TestManySteps: more than there are, more than there may be.
func TestManySteps(t *testing.T) {
	one := unhex("0200030000")
	for _, c := range []struct {
		count string
		errno api.Errno
		at    int
	}{
		{"808004", api.ErrShort, 12}, {"818004", api.ErrWire, 4}, {"FFFF07", api.ErrWire, 4}, {"80808010", api.ErrWire, 4},
		{"80808080808080808001", api.ErrWire, 4}, {"FFFFFFFFFFFFFFFFFF01", api.ErrWire, 4}, {"FFFFFFFFFFFFFFFFFF02", api.ErrNumber, 4}, {"81808000", api.ErrNumber, 4},
	} {
		wantForm(t, "a number of steps", slices.Concat(unhex("6C786401"+c.count), one), c.errno, c.at)
	}
	wantForm(t, "as many as there may be, and none there", unhex("6C786401808004"), api.ErrShort, 7)
	wantForm(t, "one step for two", slices.Concat(unhex("6C78640102"), one), api.ErrShort, 10)
	wantForm(t, "one step for two, and a sum", summed(slices.Concat(unhex("6C78640102"), one)), api.ErrWire, 10) // its first byte is no Tag
	wantForm(t, "one too many, all there", summed(slices.Concat(unhex("6C786401818004"), slices.Repeat(one, 65537))), api.ErrWire, 4)
}

// TestEachByteTurned: to each other byte, with the old sum: it is refused as the chapter says (P22.5).
func TestEachByteTurned(t *testing.T) {
	x, facts, l := manor()
	for _, l := range [][]api.Step{nil, l, l[:1], steps("-D 0 none; -d 0 none")} {
		right := modelBytes(l)
		for at := range right {
			for turned := 1; turned < 256; turned++ {
				b := slices.Clone(right)
				b[at] ^= byte(turned)
				wantTurnedRefused(t, x, facts, b)
			}
		}
	}
}

func wantTurnedRefused(t testing.TB, x api.Theory, facts []int, b []byte) {
	t.Helper()
	_, errno, at := modelDecode(b)
	if errno == api.OK {
		t.Fatalf("P22.5: the model takes %s", digits(b))
	}
	if c, got, place := checker.Check(x, facts, b); c != (checker.Claim{}) || got != errno || place != at {
		t.Errorf("P22.5: Check(%s): %+v, %d, %d, want nothing, %d, %d", digits(b), c, got, place, errno, at)
	}
}
