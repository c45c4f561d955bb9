package checker_test

import (
	"math"
	"slices"
	"testing"

	"lexprior/api"
	"lexprior/checker"
	"lexprior/theory"
	"lexprior/wire"
)

// village has all that a theory can have.
func village() api.Theory {
	return from("6; 0 -> 1; 1 => 2; 3 -> 3; ~> 4; -> 5; 1 5 => 4; 1 # 2; 3 # 4 # 5; 0 > 1; 2 > 3; 2 > 4; 4 > 5")
}

// badTheory is what theory.Check refuses a theory for, and one.
type badTheory struct {
	what   string
	theory api.Theory
	errno  api.Errno
}

func badTheories() []badTheory {
	var all []badTheory
	add := func(what string, errno api.Errno, change func(t *api.Theory)) {
		x := village()
		change(&x)
		all = append(all, badTheory{what, x, errno})
	}
	for _, lits := range []int{-1, 4097, math.MinInt, math.MaxInt} {
		add("Lits", api.ErrLits, func(t *api.Theory) { t.Lits = lits })
	}
	add("fewer lists of foes", api.ErrFoe, func(t *api.Theory) { t.Foes = t.Foes[:5] })
	add("more lists of foes", api.ErrFoe, func(t *api.Theory) { t.Foes = append(t.Foes, nil) })
	add("a literal fewer", api.ErrFoe, func(t *api.Theory) { t.Lits-- })
	add("its own foe", api.ErrFoe, func(t *api.Theory) { t.Foes[0] = lits(0) })
	add("a foe that does not return it", api.ErrFoe, func(t *api.Theory) { t.Foes[0] = lits(1) })
	add("a foe that there is not", api.ErrFoe, func(t *api.Theory) { t.Foes[0] = lits(6) })
	add("foes that fall", api.ErrFoe, func(t *api.Theory) { t.Foes[3] = lits(5, 4) })
	add("too many rules", api.ErrGround, func(t *api.Theory) { t.Rules = slices.Repeat(t.Rules[:1], 4097) })
	add("no kind", api.ErrRule, func(t *api.Theory) { t.Rules[0].Kind = 0 })
	add("another kind", api.ErrRule, func(t *api.Theory) { t.Rules[0].Kind = 4 })
	add("a head below 0", api.ErrRule, func(t *api.Theory) { t.Rules[0].Head = -1 })
	add("a head that there is not", api.ErrRule, func(t *api.Theory) { t.Rules[0].Head = 6 })
	add("a literal twice in a body", api.ErrRule, func(t *api.Theory) { t.Rules[0].Body = lits(0, 0) })
	add("a body that falls", api.ErrRule, func(t *api.Theory) { t.Rules[0].Body = lits(1, 0) })
	add("a body with what is no literal", api.ErrRule, func(t *api.Theory) { t.Rules[5].Body = lits(6) })
	add("a body with what is below 0", api.ErrRule, func(t *api.Theory) { t.Rules[5].Body = lits(-1) })
	add("a body that is too long", api.ErrRule, func(t *api.Theory) { t.Lits, t.Foes, t.Rules[5].Body = 17, make([][]int, 17), upTo(17) })
	add("too many pairs", api.ErrPairs, func(t *api.Theory) {
		t.Rules = slices.Repeat(t.Rules[:2], 300)
		t.Beats = make([][]int, 600)
	})
	add("fewer lists of beaten rules", api.ErrBeat, func(t *api.Theory) { t.Beats = nil })
	add("more lists of beaten rules", api.ErrBeat, func(t *api.Theory) { t.Beats = append(t.Beats, nil) })
	add("one that is no foe's is beaten", api.ErrBeat, func(t *api.Theory) { t.Beats[1] = lits(4) })
	add("a rule that there is not is beaten", api.ErrBeat, func(t *api.Theory) { t.Beats[1] = lits(6) })
	add("a circle of two", api.ErrPriorityCycle, func(t *api.Theory) { t.Beats[1] = lits(0) })
	return all
}

// badFacts: of a theory of so many literals.
func badFacts(lits int) [][]int {
	return [][]int{{-1}, {lits}, {0, 0}, {1, 0}, {0, 1, 2, 2}, {0, lits}, {-1, 0}, {math.MaxInt}, {math.MinInt}, append(upTo(lits), lits)}
}

func badTags() []api.Tag {
	return []api.Tag{0, -1, 5, 8, 16, math.MinInt, math.MaxInt, 1 << 32, 1<<32 + 1, 257}
}

func badLits(lits int) []int {
	return []int{-1, lits, lits + 1, 4096, math.MinInt, math.MaxInt, 1 << 32}
}

// someBytes: of derivations of the village, of what is none, and bytes with each fault of the form.
func someBytes() [][]byte {
	right := modelBytes(steps("+D 0 fact; +D 1 rule 0; +d 1 strict"))
	return [][]byte{
		right, modelBytes(steps("-D 2 none")), nil, {}, modelBytes(nil), modelBytes(steps("+d 2 strict")), modelBytes(steps("-D 2 none; +D 4095 beaten 4095 / 3 3")),
		right[:3], right[:len(right)-1], right[1:], []byte("thy\x01"), append(slices.Clone(right[:len(right)-1]), right[len(right)-1]^1), append(slices.Clone(right), 0),
		summed(unhex("6C786401 818004")), summed(unhex("6C786401 01 05 00 01 00 00")), summed(unhex("6C786401 01 01 8000 01 00 00")), make([]byte, 40),
	}
}

// wantAllCallsRefuse: for the theory's or the facts' fault, whatever else is asked.
func wantAllCallsRefuse(t *testing.T, what string, x api.Theory, facts []int, errno api.Errno) {
	t.Helper()
	for _, b := range someBytes() {
		wantRefused(t, what, x, facts, b, errno, 0)
	}
	wantWholeRefused(t, x, facts, errno)
	for _, lit := range append(badLits(6), 0, 2, 5) {
		for _, tag := range append(badTags(), tags...) {
			wantCertifyRefused(t, x, facts, lit, tag, errno)
		}
	}
}

// TestBadTheories: the theory's fault is told ahead of all others, without its number.
func TestBadTheories(t *testing.T) {
	for _, bad := range badTheories() {
		if errno, _ := theory.Check(bad.theory); errno != bad.errno {
			t.Fatalf("%s: Check: %d, want %d", bad.what, errno, bad.errno)
		}
		for _, facts := range append(badFacts(6), nil, lits(0), lits(0, 1, 5)) {
			wantAllCallsRefuse(t, bad.what, bad.theory, facts, bad.errno)
		}
	}
}

// TestBadFacts: then the facts'.
func TestBadFacts(t *testing.T) {
	for _, facts := range badFacts(6) {
		wantAllCallsRefuse(t, "facts", village(), facts, api.ErrFact)
	}
	wantAllCallsRefuse(t, "facts of nothing", api.Theory{}, lits(0), api.ErrFact)
	wantAllCallsRefuse(t, "facts of nothing", api.Theory{}, lits(-1), api.ErrFact)
}

// TestBytesBehindGoodFacts: then what the bytes are refused for, if they are.
func TestBytesBehindGoodFacts(t *testing.T) {
	seen := tally{}
	for _, b := range someBytes() {
		seen[told(wantAsModel(t, "some bytes", village(), lits(0), b))]++
		l, errno, at := wire.Decode(b)
		c, got, place := checker.Check(village(), lits(0), b)
		if errno != api.OK && (got != errno || place != at) || errno == api.OK && c.Steps > 0 && c.Steps != len(l) {
			t.Errorf("P22.1: Check(%s): %+v, %d, %d, but Decode: %d, %d", digits(b), c, got, place, errno, at)
		}
	}
	for _, errno := range []api.Errno{api.OK, api.ErrShort, api.ErrWire, api.ErrNumber, api.ErrSum, api.ErrTail, api.ErrNone, api.ErrClaim} {
		seen.want(t, 1, told(errno))
	}
}

// TestFormAheadOfClaim: where a step does not follow and the form is at fault, wherever that is, the form is told.
func TestFormAheadOfClaim(t *testing.T) {
	x, l := chain()
	for at := range l {
		wrong := slices.Clone(l)
		wrong[at] = step("+d 5 strict")
		wantClaimRefused(t, "one wrong", x, lits(0), wrong, at)
		b := modelBytes(wrong)
		end := len(b) - 4
		wantRefused(t, "cut", x, lits(0), b[:end-1], api.ErrShort, end-1)
		wantRefused(t, "no sum", x, lits(0), b[:end+3], api.ErrShort, end+3)
		wantRefused(t, "more behind", x, lits(0), append(slices.Clone(b), 7), api.ErrTail, len(b))
		b[end] ^= 1
		wantRefused(t, "another sum", x, lits(0), b, api.ErrSum, end)
		all := parts(append(wrong, step("-D 4 none")))
		all[4].n = uint64(len(wrong) + 1)
		for n := len(all) - 5; n < len(all); n++ {
			spoilt := slices.Clone(all)
			spoilt[n].n = 200
			if !spoilt[n].isByte() {
				spoilt[n].n = 1 << 20
			}
			bytes, places := laid(spoilt)
			wantRefused(t, "a number in the last step", x, lits(0), summed(bytes), api.ErrWire, places[n])
		}
	}
}

// TestBadArguments: no literal, no tag; of both the literal is told; and then that it has not the tag.
func TestBadArguments(t *testing.T) {
	for _, facts := range [][]int{nil, {}, {0}, upTo(6)} {
		for _, lit := range badLits(6) {
			for _, tag := range append(badTags(), tags...) {
				wantCertifyRefused(t, village(), facts, lit, tag, api.ErrLit)
			}
		}
		for _, tag := range badTags() {
			for lit := range 6 {
				wantCertifyRefused(t, village(), facts, lit, tag, api.ErrArg)
			}
		}
	}
	for _, tag := range append(badTags(), tags...) {
		for _, lit := range append(badLits(0), 0) {
			wantCertifyRefused(t, api.Theory{}, nil, lit, tag, api.ErrLit)
			wantCertifyRefused(t, api.Theory{}, []int{}, lit, tag, api.ErrLit)
		}
	}
}
