package wire_test

import (
	"bytes"
	"slices"
	"testing"

	"lexprior/api"
	"lexprior/derive"
	"lexprior/ground"
	"lexprior/prior"
	"lexprior/syntax"
	"lexprior/wire"
)

// TestThereAndBack: steps by chance.
func TestThereAndBack(t *testing.T) {
	t.Parallel()
	m := newMaker(231)
	seen := tally{}
	for range 6000 {
		l := m.steps(pick(m, 1, 3, 12))
		wantTaken(t, "by chance", l, modelBytes(l))
		for _, s := range l {
			switch {
			case s.Choices == nil:
				seen["nil choices"]++
			case len(s.Choices) == 0:
				seen["empty choices"]++
			case len(s.Choices) > 127:
				seen["many choices"]++
			default:
				seen["choices"]++
			}
		}
	}
	seen.want(t, 300, "nil choices", "empty choices", "many choices", "choices")
}

// TestSpoiltSteps: by chance; of those that may not be the first is told.
func TestSpoiltSteps(t *testing.T) {
	t.Parallel()
	m := newMaker(232)
	seen := tally{}
	for range 6000 {
		l := m.steps(6)
		for range pick(m, 1, 1, 2, 3) {
			l = m.spoil(l)
		}
		at := slices.IndexFunc(l, func(s api.Step) bool { return !modelMayBe(s) })
		if at < 0 {
			seen["may be"]++
			wantTaken(t, "spoilt", l, modelBytes(l))
			continue
		}
		seen["may not be"]++
		wantRefused(t, "spoilt", l, api.ErrStep, at)
	}
	seen.want(t, 500, "may be", "may not be")
}

// modelMayBe: by what each part may be told as.
func modelMayBe(s api.Step) bool {
	if s.Rule < -1 || len(s.Choices) > 4096 {
		return false
	}
	for _, p := range parts([]api.Step{s})[5:] {
		// What is below 0 is told as a number above all that may be.
		if least, most := p.kind.bounds(); p.n < least || p.n > most {
			return false
		}
	}
	return true
}

// wantAsModel: what Decode says of bytes is what the chapter does; what it takes is Encode of its answer. It says what was told.
func wantAsModel(t testing.TB, b []byte) api.Errno {
	t.Helper()
	l, errno, at := modelDecode(b)
	if errno != api.OK {
		wantFault(t, "as the chapter says", b, errno, at)
		return errno
	}
	wantTaken(t, "as the chapter says", l, b)
	got, _, _ := wire.Decode(b)
	if back, errno := wire.Encode(got); errno != api.OK || !bytes.Equal(back, b) {
		t.Errorf("P21.3: Encode(Decode(%s)): %s, %d", digits(b), digits(back), errno)
	}
	return errno
}

// TestChanceBytes: most have a sum that is right.
func TestChanceBytes(t *testing.T) {
	t.Parallel()
	m := newMaker(233)
	seen := map[api.Errno]int{}
	for range 60000 {
		seen[wantAsModel(t, m.bytes())]++
	}
	for _, errno := range []api.Errno{api.OK, api.ErrShort, api.ErrWire, api.ErrNumber, api.ErrSum, api.ErrTail} {
		if seen[errno] < 500 {
			t.Errorf("only %d times: %d", seen[errno], errno)
		}
	}
}

// TestAnyBytes: of any length; they are answered, and not taken, since a beginning and a sum don't come by chance.
func TestAnyBytes(t *testing.T) {
	t.Parallel()
	m := newMaker(234)
	for n := range 20000 {
		b := make([]byte, n%70)
		m.chance.Read(b)
		if n%2 == 0 {
			b = append([]byte("lxd\x01"), b...)
		}
		if wantAsModel(t, b) == api.OK {
			t.Errorf("P21.2: Decode takes %s", digits(b))
		}
	}
}

// TestAllShortBytes: of a step all bytes that matter, at each place, with their sum.
func TestAllShortBytes(t *testing.T) {
	t.Parallel()
	some := []byte{0, 1, 4, 5, 6, 17, 0x80}
	taken := 0
	for size := 3; size <= 6; size++ {
		many := 1
		for range size {
			many *= len(some)
		}
		for n := range many {
			b := []byte("lxd\x01\x01")
			for range size {
				b = append(b, some[n%len(some)])
				n /= len(some)
			}
			if wantAsModel(t, summed(b)) == api.OK {
				taken++
			}
		}
	}
	if taken < 500 {
		t.Errorf("only %d were taken", taken)
	}
}

// statute has rules of all kinds, exceptions and circles.
const statute = `kind person. member anna : person. member bela : person. pred old(person). pred rich(person). pred ill(person). pred odd(person).
amount help(person) : 10, 20, 30. source act rank 3. source decree rank 2.
rule a of act at 2001-01-01 : old(X) => help(X) = 20. rule b of decree at 2009-01-01 : rich(X) => help(X) = 10.
rule c of decree at 2010-01-01 : ill(X) => help(X) = 30. rule d of act at 2010-01-01 : old(X) ~> rich(X). rule e of act at 2010-01-01 : ill(X) -> old(X).
rule f of act at 2010-01-01 : odd(X) => odd(X). exception c to a.`

// TestDerivations: those of all tags of a statute's theory, with any facts.
func TestDerivations(t *testing.T) {
	s, errno, _ := syntax.Parse(statute)
	g, _, _ := ground.Ground(s)
	g, cyclic, _ := prior.Build(s, g)
	if errno != api.OK || cyclic != api.OK || g.Theory.Lits < 8 {
		t.Fatalf("%d, %d: %s", errno, cyclic, told(g))
	}
	m := newMaker(235)
	seen := tally{}
	for range 200 {
		var facts []int
		for lit := range g.Theory.Lits {
			if m.oneIn(4) {
				facts = append(facts, lit)
			}
		}
		all, errno := derive.All(g.Theory, facts)
		if errno != api.OK {
			t.Fatalf("All: %d", errno)
		}
		wantTaken(t, "a derivation", all, modelBytes(all))
		for _, s := range all {
			seen[told(s.Tag)+" "+told(s.How)]++
			if len(s.Choices) > 0 {
				seen["choices"]++
			}
		}
	}
	seen.want(t, 20, "1 1", "1 2", "2 3", "3 2", "3 4", "4 3", "4 4", "choices")
}

// turnRun: bits from a place on, the lowest of a byte first, up to so many; the first and the last of them are turned.
func (m *maker) turnRun(b []byte, from, length int) []byte {
	b = slices.Clone(b)
	for i := range length {
		if i == 0 || i == length-1 || m.oneIn(2) {
			b[(from+i)/8] ^= 1 << ((from + i) % 8)
		}
	}
	return b
}

// wantTurnedRefused: as the chapter says; the model takes none either.
func wantTurnedRefused(t *testing.T, right, b []byte) {
	t.Helper()
	l, errno, at := modelDecode(b)
	if errno == api.OK {
		t.Fatalf("P21.4: the model takes %s, told from %s: %s", digits(b), digits(right), told(l))
	}
	wantFault(t, "a run of bits turned", b, errno, at)
}

// TestTurnedRuns: of at most 32 bits, from each bit on.
func TestTurnedRuns(t *testing.T) {
	t.Parallel()
	m := newMaker(236)
	for _, l := range [][]api.Step{nil, steps("+D 0 fact"), house(), m.steps(5), m.steps(20), slices.Repeat(house(), 30)} {
		right := modelBytes(l)
		wantTaken(t, "right", l, right)
		for from := range 8 * len(right) {
			for range max(1, 60000/(8*len(right))) {
				length := min(pick(m, 1, 2, 8, 31, 32, 1+m.chance.Intn(32)), 8*len(right)-from)
				wantTurnedRefused(t, right, m.turnRun(right, from, length))
			}
		}
	}
}

// TestTurnedBytes: any four bytes beside each other, in any way.
func TestTurnedBytes(t *testing.T) {
	t.Parallel()
	m := newMaker(237)
	for range 20000 {
		right := modelBytes(m.steps(4))
		b := slices.Clone(right)
		at := m.chance.Intn(len(b) - 3)
		m.chance.Read(b[at : at+4])
		if !bytes.Equal(b, right) {
			wantTurnedRefused(t, right, b)
		}
	}
}

// TestTurnedLong: runs in the bytes of long lists, some of which say another list of the same length.
func TestTurnedLong(t *testing.T) {
	t.Parallel()
	m := newMaker(238)
	for range 20 {
		right := modelBytes(m.steps(3000))
		for range 20 {
			length := 1 + m.chance.Intn(32)
			wantTurnedRefused(t, right, m.turnRun(right, m.chance.Intn(8*len(right)-length), length))
		}
	}
}
