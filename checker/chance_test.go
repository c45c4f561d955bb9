package checker_test

import (
	"slices"
	"testing"

	"lexprior/api"
	"lexprior/checker"
	"lexprior/derive"
	"lexprior/naive"
	"lexprior/theory"
	"lexprior/wire"
)

// solved: the tags that there are by the conditions.
func solved(t testing.TB, x api.Theory, facts []int) []api.Marks {
	t.Helper()
	list, errno := naive.Solve(x, facts)
	if errno != api.OK {
		t.Fatalf("Solve(%s, %v): %d", told(x), facts, errno)
	}
	return list
}

// wantOnlyWhatHolds: of any bytes: what is claimed, and all that is shown, has its tag. It says whether they were taken.
func wantOnlyWhatHolds(t testing.TB, what string, x api.Theory, facts []int, b []byte, hold []api.Marks) bool {
	t.Helper()
	c, errno, at := checker.Check(x, facts, b)
	said, shown, place := checker.Shown(x, facts, b)
	if errno != api.OK {
		if c != (checker.Claim{}) || shown != errno || place != at || len(said) > 0 {
			t.Errorf("P22.1: %s: of %s: Check %+v, %d, %d, Shown %s, %d, %d", what, digits(b), c, errno, at, told(said), shown, place)
		}
		return false
	}
	if shown != api.OK || len(said) != x.Lits || at != len(b) || said[c.Lit]>>(c.Tag-1)&1 == 0 {
		t.Errorf("P22.1: %s: of %s: Check %+v, %d, Shown %s, %d", what, digits(b), c, at, told(said), shown)
		return true
	}
	for lit := range said {
		if said[lit]&^hold[lit] != 0 {
			t.Errorf("P22.3: %s: %s show %v of %s and %v, but %v hold", what, digits(b), said, told(x), facts, hold)
			break
		}
	}
	return true
}

// wantJust: bytes that are taken for just the tags that there are.
func wantJust(t testing.TB, x api.Theory, facts []int, seen tally) {
	t.Helper()
	hold := solved(t, x, facts)
	for lit := range x.Lits {
		for _, tag := range tags {
			if hold[lit]>>(tag-1)&1 == 0 {
				wantCertifyRefused(t, x, facts, lit, tag, api.ErrNone)
				seen["does not hold"]++
				continue
			}
			b := certified(t, x, facts, lit, tag)
			wantOnlyWhatHolds(t, "Certify", x, facts, b, hold)
			if wantAsModel(t, "Certify", x, facts, b) != api.OK {
				t.Errorf("P22.2: the model refuses Certify(%s, %v, %d, %d): %s", told(x), facts, lit, tag, digits(b))
			}
			seen[[]string{"", "+D", "-D", "+d", "-d"}[tag]]++
		}
	}
	if !slices.ContainsFunc(hold, func(said api.Marks) bool { return said != 0 }) {
		wantWholeRefused(t, x, facts, api.ErrNone)
		seen["nothing holds"]++
		return
	}
	wantWhole(t, x, facts, hold)
}

// TestJustWhatHolds: P22.2, P22.3, P22.4, P22.7.
func TestJustWhatHolds(t *testing.T) {
	t.Parallel()
	m := newMaker(241)
	seen := tally{}
	for range 1500 {
		x := m.any()
		wantJust(t, x, m.some(pick(m, 0, 2, 5), x.Lits), seen)
		if t.Failed() {
			return
		}
	}
	seen.want(t, 500, "+D", "-D", "+d", "-d", "does not hold")
	seen.want(t, 50, "nothing holds")
}

// TestSmallWhole: all theories of two foes with two rules that have no body, or the foe or their own head in it, with the first above the other and without.
func TestSmallWhole(t *testing.T) {
	t.Parallel()
	var all []api.Rule
	for _, kind := range []api.Arrow{api.Strict, api.Defeasible, api.Defeater} {
		for _, head := range lits(0, 1) {
			for _, body := range [][]int{nil, {0}, {1}} {
				all = append(all, rule(kind, head, body...))
			}
		}
	}
	for n := range len(all) * len(all) * 2 {
		a, b := all[n/2%len(all)], all[n/2/len(all)]
		x := plain(2, a, b)
		enemies(&x, 0, 1)
		if n%2 == 1 && a.Head != b.Head {
			insert(&x.Beats[0], 1)
		}
		for _, facts := range [][]int{nil, {0}, {1}, {0, 1}} {
			wantJust(t, x, facts, tally{})
		}
		if t.Failed() {
			return
		}
	}
}

// TestDerivationsByChance: lists that chance finds, of steps by all ways: taken; and, where steps are spoilt, go, or change places, told as the model does.
func TestDerivationsByChance(t *testing.T) {
	t.Parallel()
	m := newMaker(242)
	seen := map[api.Errno]int{}
	rows := tally{}
	for range 2500 {
		x := m.any()
		facts := m.some(pick(m, 0, 2, 5), x.Lits)
		l := m.derivation(x, facts, 80)
		if len(l) == 0 {
			continue
		}
		hold := solved(t, x, facts)
		wantTaken(t, "by chance", x, facts, l)
		wantOnlyWhatHolds(t, "by chance", x, facts, modelBytes(l), hold)
		for _, s := range l {
			rows[rowOf(s)]++
		}
		for range 4 {
			b := modelBytes(m.disturb(x, l))
			wantOnlyWhatHolds(t, "disturbed", x, facts, b, hold)
			seen[wantAsModel(t, "disturbed", x, facts, b)]++
		}
		if t.Failed() {
			return
		}
	}
	for _, errno := range []api.Errno{api.OK, api.ErrClaim, api.ErrWire} {
		if seen[errno] < 300 {
			t.Errorf("only %d times: %d", seen[errno], errno)
		}
	}
	rows.want(t, 60, rowNames()...)
}

// disturb: a step or two become others, go, or change places.
func (m *maker) disturb(x api.Theory, l []api.Step) []api.Step {
	l = slices.Clone(l)
	for range pick(m, 1, 1, 2) {
		at, other := m.chance.Intn(len(l)), m.chance.Intn(len(l))
		switch {
		case m.oneIn(2):
			l[at] = m.spoilStep(x, l[at])
		case len(l) > 1 && m.oneIn(2):
			l = slices.Delete(l, at, at+1)
		default:
			l[at], l[other] = l[other], l[at]
		}
	}
	return l
}

// bytes: some that are right over a theory, or nearly; most have a sum that is right, so that the faults ahead of it are met.
func (m *maker) bytes(x api.Theory, facts []int) []byte {
	b, _ := laid(parts(m.derivation(x, facts, 20)))
	switch m.chance.Intn(5) {
	case 0:
		b = m.turnBytes(b)
	case 1:
		b = append([]byte("lxd\x01"), byte(m.chance.Intn(4)))
		for range m.chance.Intn(16) {
			b = append(b, byte(pick(m, m.chance.Intn(6), m.chance.Intn(6), m.chance.Intn(6), m.chance.Intn(256))))
		}
	case 2:
		// Steps of the form, whether they follow or not.
		var l []api.Step
		for range m.chance.Intn(4) {
			if s, there := m.step(x); there {
				l = append(l, s)
			}
		}
		b, _ = laid(parts(l))
	}
	if !m.oneIn(8) {
		b = summed(b)
	}
	switch m.chance.Intn(16) {
	case 0, 1:
		b = m.turnBytes(b)
	case 2:
		b = append(b, make([]byte, 1+m.chance.Intn(6))...)
	}
	return b
}

// turnBytes: some bytes are others, some go, some come.
func (m *maker) turnBytes(b []byte) []byte {
	b = slices.Clone(b)
	for range pick(m, 1, 1, 2, 5) {
		at := m.chance.Intn(len(b) + 1)
		switch {
		case at < len(b) && m.oneIn(2):
			b[at] = byte(pick(m, m.chance.Intn(256), m.chance.Intn(6), 0x80, 0xFF))
		case at < len(b) && m.oneIn(2):
			b = slices.Delete(b, at, at+1)
		default:
			b = slices.Insert(b, at, byte(pick(m, m.chance.Intn(256), m.chance.Intn(6), 0x80)))
		}
	}
	return b
}

// TestBytesByChance: P22.3 of bytes from anywhere: they are told as the model does, and as chapter 21 where the form is at fault.
func TestBytesByChance(t *testing.T) {
	t.Parallel()
	m := newMaker(243)
	seen := map[api.Errno]int{}
	for range 1500 {
		x := m.any()
		facts := m.some(pick(m, 0, 2, 5), x.Lits)
		hold := solved(t, x, facts)
		for range 12 {
			b := m.bytes(x, facts)
			wantOnlyWhatHolds(t, "bytes", x, facts, b, hold)
			seen[wantAsModel(t, "bytes", x, facts, b)]++
			if _, errno, at := wire.Decode(b); errno != api.OK {
				wantRefused(t, "as Decode", x, facts, b, errno, at)
			}
		}
		if t.Failed() {
			return
		}
	}
	for _, errno := range []api.Errno{api.OK, api.ErrShort, api.ErrWire, api.ErrNumber, api.ErrSum, api.ErrTail, api.ErrNone, api.ErrClaim} {
		if seen[errno] < 50 {
			t.Errorf("only %d times: %d", seen[errno], errno)
		}
	}
}

// TestAnyBytes: of any length.
func TestAnyBytes(t *testing.T) {
	t.Parallel()
	m := newMaker(244)
	x := village()
	for n := range 20000 {
		b := make([]byte, n%70)
		m.chance.Read(b)
		if n%2 == 0 {
			b = append([]byte("lxd\x01"), b...)
		}
		if wantAsModel(t, "any bytes", x, lits(0), b) == api.OK {
			t.Errorf("P22.3: %s are taken", digits(b))
		}
	}
	for n := range 100 {
		wantRefused(t, "zeros", x, lits(0), make([]byte, n+1), api.ErrWire, 0)
	}
}

// TestTurnedRuns: of at most 32 bits, in Certify's and Whole's bytes: refused (P22.5).
func TestTurnedRuns(t *testing.T) {
	t.Parallel()
	m := newMaker(245)
	many := 0
	for range 400 {
		x := m.any()
		facts := m.some(pick(m, 0, 2, 5), x.Lits)
		b, errno := checker.Whole(x, facts)
		if errno != api.OK {
			continue
		}
		l, _, _ := modelDecode(b)
		last := l[m.chance.Intn(len(l))]
		for _, right := range [][]byte{b, certified(t, x, facts, last.Lit, last.Tag)} {
			for range 30 {
				length := 1 + m.chance.Intn(32)
				wantTurnedRefused(t, x, facts, m.turnRun(right, m.chance.Intn(8*len(right)-length+1), length))
				many++
			}
			at := m.chance.Intn(len(right))
			turned := slices.Clone(right)
			turned[at] ^= byte(1 + m.chance.Intn(255))
			wantTurnedRefused(t, x, facts, turned)
		}
		if t.Failed() {
			return
		}
	}
	if many < 10000 {
		t.Errorf("only %d runs were turned", many)
	}
}

// turnRun: bits from a place on, the lowest of a byte first, up to so many; the first and the last of them are turned.
func (m *maker) turnRun(b []byte, from, length int) []byte {
	b = slices.Clone(b)
	for i := range length {
		if i == 0 || i == length-1 || m.oneIn(2) {
			b[(from+i)/8] ^= 1 << ((from + i) % 8)
		}
	}
	return b
}

// other: a theory that is like another but for a rule, foes, what beats what, or how many literals there are; or one that has nothing of it.
func (m *maker) other(x api.Theory) api.Theory {
	for {
		y := exact(x)
		for range pick(m, 1, 2) {
			m.spoil(&y)
		}
		if m.oneIn(8) {
			y = m.any()
		}
		if errno, _ := theory.Check(y); errno == api.OK {
			return y
		}
	}
}

// TestElsewhere: over another theory, or other facts, the same bytes say only what holds there, or are refused (P22.6).
func TestElsewhere(t *testing.T) {
	t.Parallel()
	m := newMaker(246)
	seen := tally{}
	for range 2000 {
		x := m.any()
		facts := m.some(pick(m, 0, 2, 5), x.Lits)
		all, errno := derive.All(x, facts)
		if errno != api.OK || len(all) == 0 {
			continue
		}
		s := all[m.chance.Intn(len(all))]
		for _, b := range [][]byte{modelBytes(all), certified(t, x, facts, s.Lit, s.Tag)} {
			y, others := m.other(x), facts
			if m.oneIn(2) {
				y, others = x, m.some(5, x.Lits)
			}
			others = slices.DeleteFunc(slices.Clone(others), func(fact int) bool { return fact >= y.Lits })
			hold := solved(t, y, others)
			if wantOnlyWhatHolds(t, "elsewhere", y, others, b, hold) {
				seen["taken"]++
			} else {
				seen["refused"]++
			}
			wantAsModel(t, "elsewhere", y, others, b)
		}
		if t.Failed() {
			return
		}
	}
	seen.want(t, 500, "taken", "refused")
}

// TestSpoiltByChance: the theory's fault goes ahead of the facts', that of the literal, the tag's, and that it has not the tag.
func TestSpoiltByChance(t *testing.T) {
	t.Parallel()
	m := newMaker(247)
	seen := tally{}
	for range 6000 {
		x := m.theory(6, 8)
		facts, lit, tag := m.some(4, x.Lits), m.odd(x.Lits), api.Tag(pick(m, 1, 2, 3, 4, m.odd(5)))
		b := m.bytes(x, facts)
		if m.oneIn(2) {
			m.spoil(&x)
		}
		if m.oneIn(3) {
			facts = m.change(facts, x.Lits)
		}
		errno, _ := theory.Check(x)
		if errno == api.OK {
			errno = theory.CheckFacts(x, facts)
		}
		if errno != api.OK {
			wantRefused(t, "spoilt", x, facts, b, errno, 0)
			wantWholeRefused(t, x, facts, errno)
			wantCertifyRefused(t, x, facts, lit, tag, errno)
		} else {
			errno = wantCertifyByNaive(t, x, facts, lit, tag)
		}
		seen[told(errno)]++
		if t.Failed() {
			return
		}
	}
	for _, errno := range []api.Errno{api.OK, api.ErrLits, api.ErrFoe, api.ErrRule, api.ErrBeat, api.ErrFact, api.ErrLit, api.ErrArg, api.ErrNone} {
		seen.want(t, 40, told(errno))
	}
}

func wantCertifyByNaive(t testing.TB, x api.Theory, facts []int, lit int, tag api.Tag) api.Errno {
	t.Helper()
	var errno api.Errno
	switch {
	case lit < 0 || lit >= x.Lits:
		errno = api.ErrLit
	case !slices.Contains(tags, tag):
		errno = api.ErrArg
	case solved(t, x, facts)[lit]>>(tag-1)&1 == 0:
		errno = api.ErrNone
	default:
		certified(t, x, facts, lit, tag)
		return api.OK
	}
	wantCertifyRefused(t, x, facts, lit, tag, errno)
	return errno
}
