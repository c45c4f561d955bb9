package checker_test

import (
	"bytes"
	"testing"

	"lexprior/api"
	"lexprior/checker"
	"lexprior/ground"
	"lexprior/prior"
	"lexprior/syntax"
)

// TestExamples: the chapter's, with their bytes laid out by hand.
func TestExamples(t *testing.T) {
	x := from("1; => 0")
	b := certified(t, x, nil, 0, api.PlusPartial)
	if c, errno, at := checker.Check(x, nil, b); c.Lit != 0 || c.Tag != api.PlusPartial || c.Steps < 1 || errno != api.OK || at != len(b) {
		t.Errorf("P22.1: Check(%s): %+v, %d, %d", digits(b), c, errno, at)
	}
	wantRefused(t, "by a strict rule", x, nil, summed(unhex("6C786401 01  03 00 04 00 00")), api.ErrClaim, 0)
	wantRefused(t, "no step", x, nil, summed(unhex("6C786401 00")), api.ErrNone, 0)
}

// TestBytes: laid out by hand, and told.
func TestBytes(t *testing.T) {
	take := func(x api.Theory, facts []int, text string, want checker.Claim) {
		t.Helper()
		b := summed(unhex("6C786401" + text))
		if c, errno, at := checker.Check(x, facts, b); c != want || errno != api.OK || at != len(b) {
			t.Errorf("P22.1: Check(%s, %v, %s): %+v, %d, %d, want %+v", told(x), facts, digits(b), c, errno, at, want)
		}
		if !checker.Accepts(x, facts, b, want.Lit, want.Tag) {
			t.Errorf("P22.1: Accepts(%s, %v, %s)", told(x), facts, digits(b))
		}
	}
	x := from("2; => 0; => 1; 0 # 1; 0 > 1")
	take(x, nil, "01  02 01 03 00 00", checker.Claim{Lit: 1, Tag: api.MinusDelta, Steps: 1})
	take(x, nil, "02  02 01 03 00 00  03 00 02 01 01 00 01", checker.Claim{Lit: 0, Tag: api.PlusPartial, Steps: 2})
	take(x, nil, "02  02 01 03 00 00  04 01 05 01 00", checker.Claim{Lit: 1, Tag: api.MinusPartial, Steps: 2})
	take(x, lits(0), "03  01 00 01 00 00  02 01 03 00 00  04 01 04 01 00", checker.Claim{Lit: 1, Tag: api.MinusPartial, Steps: 3})
	take(x, lits(1), "02  01 01 01 00 00  03 01 04 00 00", checker.Claim{Lit: 1, Tag: api.PlusPartial, Steps: 2})
	x = from("3; 0 -> 1; 0 2 => 1")
	take(x, lits(0), "02  01 00 01 00 00  01 01 02 01 00", checker.Claim{Lit: 1, Tag: api.PlusDelta, Steps: 2})
	take(x, nil, "02  02 00 03 00 00  02 01 03 00 01 01 00", checker.Claim{Lit: 1, Tag: api.MinusDelta, Steps: 2})
	take(x, nil, "05  02 00 03 00 00  02 01 03 00 01 01 00  02 02 03 00 00  04 02 03 00 00  04 00 03 00 00", checker.Claim{Lit: 0, Tag: api.MinusPartial, Steps: 5})
	take(x, nil, "06  02 00 03 00 00  02 01 03 00 01 01 00  02 02 03 00 00  04 02 03 00 00  04 00 03 00 00  04 01 03 00 02 01 00 02 00", checker.Claim{Lit: 1, Tag: api.MinusPartial, Steps: 6})
}

// TestJustOneWay: where there is but one lean derivation, Certify's and Whole's bytes are known.
func TestJustOneWay(t *testing.T) {
	x := from("1; => 0")
	if b := certified(t, x, lits(0), 0, api.PlusDelta); !bytes.Equal(b, summed(unhex("6C786401 01 01 00 01 00 00"))) {
		t.Errorf("P22.2: %s", digits(b))
	}
	wantWhole(t, x, nil, []api.Marks{6})
	wantWhole(t, x, lits(0), []api.Marks{5})
	wantWhole(t, from("1"), nil, []api.Marks{10})
	wantWhole(t, from("1; 0 => 0"), nil, []api.Marks{2})
	wantWhole(t, from("2; 0 -> 0"), nil, []api.Marks{0, 10})
	wantWhole(t, from("2; => 0; => 1; 0 # 1; 0 > 1"), nil, []api.Marks{6, 10})
	wantWhole(t, from("2; => 0; => 1; 0 # 1"), nil, []api.Marks{10, 10})
}

// TestStatutes: the document's own examples, from their texts on.
func TestStatutes(t *testing.T) {
	const text = `kind person. member anna : person. pred old(person). pred rich(person). amount help(person) : 10, 20.
source act rank 2. source decree rank 1.
rule a of act at 2001-01-01 : old(X) => help(X) = 20. rule b of decree at 2009-01-01 : rich(X) => help(X) = 10.`
	var theories [2]api.Theory
	number := map[string]int{}
	for n, exception := range []string{"", " exception b to a."} {
		s, errno, _ := syntax.Parse(text + exception)
		g, cyclic, _ := ground.Ground(s)
		g, unlike, _ := prior.Build(s, g)
		if errno != api.OK || cyclic != api.OK || unlike != api.OK {
			t.Fatalf("%d, %d, %d", errno, cyclic, unlike)
		}
		theories[n] = g.Theory
		for lit := range g.Lits {
			name, _ := ground.Lit(s, g, lit)
			number[name] = lit
		}
	}
	var facts []int
	insert(&facts, number["old(anna)"])
	insert(&facts, number["rich(anna)"])
	twenty, ten := number["help(anna) = 20"], number["help(anna) = 10"]
	for n, x := range theories {
		won, lost := twenty, ten
		if n == 1 {
			won, lost = ten, twenty
		}
		more := certified(t, x, facts, won, api.PlusPartial)
		less := certified(t, x, facts, lost, api.MinusPartial)
		wantCertifyRefused(t, x, facts, lost, api.PlusPartial, api.ErrNone)
		wantCertifyRefused(t, x, facts, won, api.MinusPartial, api.ErrNone)
		// By the other text the same bytes show neither.
		other := theories[1-n]
		if checker.Accepts(other, facts, more, won, api.PlusPartial) || checker.Accepts(other, facts, less, lost, api.MinusPartial) {
			t.Errorf("P22.6: %s, %s", digits(more), digits(less))
		}
	}
}
