package naive_test

import (
	"slices"
	"testing"

	"lexprior/api"
)

// ways: each of some mark lists, and whether a condition holds by it.
type way struct {
	marks []api.Marks
	holds bool
}

func wantWays(t *testing.T, x api.Theory, facts []int, tag api.Tag, q int, ways ...way) {
	t.Helper()
	for _, w := range ways {
		wantHolds(t, x, facts, w.marks, tag, q, w.holds)
	}
}

// TestPlusDeltaOfFacts: whatever the marks are; and what they say of the literal itself does not matter.
func TestPlusDeltaOfFacts(t *testing.T) {
	for _, said := range []string{none, "+D", "-D", held, lost, "+d", "+D -D +d -d ?", "?"} {
		wantHolds(t, plain(2), lits(1), marks(said, said), api.PlusDelta, 1, true)
		wantHolds(t, plain(2), lits(1), marks(said, said), api.PlusDelta, 0, false)
		wantHolds(t, from("2; 0 -> 1"), lits(1), marks(said, said), api.PlusDelta, 1, true)
		wantHolds(t, from("2; -> 1"), nil, marks(said, said), api.PlusDelta, 1, true)
		wantHolds(t, from("2; => 1; ~> 1"), nil, marks(said, said), api.PlusDelta, 1, false)
	}
}

// TestPlusDeltaOfRules: a strict rule's whole body has +D, wherever the rule stands; +d is not enough.
func TestPlusDeltaOfRules(t *testing.T) {
	wantWays(t, from("4; 0 1 2 -> 3"), nil, api.PlusDelta, 3,
		way{marks("+D", "+D", "+D", none), true},
		way{marks("+D", "+D", "+D", lost), true},
		way{marks("+D -D", "+D -d", "+D ?", none), true},
		way{marks(none, "+D", "+D", "+D"), false},
		way{marks("+D", none, "+D", held), false},
		way{marks("+D", "+D", none, held), false},
		way{marks("+d", "+d", "+d", "+d"), false},
		way{marks("+D", "-D +d -d ?", "+D", none), false},
	)
	for _, text := range []string{"3; 0 -> 2; 1 -> 2", "3; 1 -> 2; 0 -> 2", "3; ~> 2; 0 => 2; 0 -> 2; => 2; 1 -> 2"} {
		wantWays(t, from(text), nil, api.PlusDelta, 2,
			way{marks("+D", none, none), true},
			way{marks(none, "+D", none), true},
			way{marks("+D", "+D", none), true},
			way{marks(none, none, "+D"), false},
			way{marks("-D +d -d", "-D +d -d", none), false},
		)
	}
	for _, text := range []string{"2; 0 => 1", "2; 0 ~> 1", "2; 1 -> 0"} {
		wantHolds(t, from(text), lits(0), marks(held, held), api.PlusDelta, 1, false)
	}
}

func TestHeadInStrictBody(t *testing.T) {
	x := from("2; 0 -> 0; 0 1 -> 1")
	wantWays(t, x, nil, api.PlusDelta, 0, way{marks(none, none), false}, way{marks("+D", none), true})
	wantWays(t, x, nil, api.MinusDelta, 0, way{marks(none, none), false}, way{marks("-D", none), true})
	wantWays(t, x, nil, api.PlusDelta, 1, way{marks("+D", none), false}, way{marks("+D", "+D"), true})
	wantWays(t, x, nil, api.MinusDelta, 1, way{marks("-D", none), true}, way{marks(none, "-D"), true})
	wantWays(t, x, lits(0), api.PlusDelta, 0, way{marks(none, none), true})
	wantWays(t, x, lits(0), api.MinusDelta, 0, way{marks("-D", "-D"), false})
}

// TestMinusDeltaOfFacts: never, whatever becomes of the rules; of what has no strict rule and is no fact always.
func TestMinusDeltaOfFacts(t *testing.T) {
	for _, said := range []string{none, "+D", "-D", held, lost, "-d", "+D -D +d -d ?", "?"} {
		for _, text := range []string{"3", "3; 0 -> 1", "3; -> 1", "3; => 1; 0 => 1; ~> 1"} {
			wantHolds(t, from(text), lits(1), marks(said, said, said), api.MinusDelta, 1, false)
			wantHolds(t, from(text), lits(1), marks(said, said, said), api.MinusDelta, 2, true)
		}
		wantHolds(t, from("2; => 1; 0 => 1; ~> 1; 0 ~> 1; 1 -> 0"), nil, marks(said, said), api.MinusDelta, 1, true)
		wantHolds(t, from("2; -> 1; 0 -> 1"), nil, marks(said, said), api.MinusDelta, 1, false)
	}
}

// TestMinusDeltaOfRules: each strict rule has a literal with -D, one is enough; -d is not.
func TestMinusDeltaOfRules(t *testing.T) {
	wantWays(t, from("4; 0 1 2 -> 3"), nil, api.MinusDelta, 3,
		way{marks("-D", none, none, none), true},
		way{marks(none, "-D", none, held), true},
		way{marks(held, held, "+D -D", none), true},
		way{marks(none, none, none, none), false},
		way{marks(none, none, none, lost), false},
		way{marks("+D +d -d ?", "-d", "-d", none), false},
	)
	for _, text := range []string{"3; 0 -> 2; 1 -> 2", "3; 1 -> 2; 0 -> 2", "3; ~> 2; 0 -> 2; => 2; 1 -> 2; 0 => 2"} {
		wantWays(t, from(text), nil, api.MinusDelta, 2,
			way{marks("-D", "-D", none), true},
			way{marks("-D", none, "-D"), false},
			way{marks(none, "-D", "-D"), false},
			way{marks(none, none, none), false},
		)
	}
}

// TestFoesOfStrictOnes: by +D and -D foes and superiority are not asked.
func TestFoesOfStrictOnes(t *testing.T) {
	x := from("3; 0 -> 1; 0 -> 2; 1 # 2; 0 > 1")
	for _, said := range []string{none, held, lost, "+D -D +d -d"} {
		for _, q := range lits(1, 2) {
			wantHolds(t, x, nil, marks("+D", said, said), api.PlusDelta, q, true)
			wantHolds(t, x, nil, marks("-D", said, said), api.MinusDelta, q, true)
		}
	}
}

// TestStrictOnesHangOnStrictOnes: on no bit but the one of their own tag.
func TestStrictOnesHangOnStrictOnes(t *testing.T) {
	x := from("2; 0 -> 1")
	for m := range 256 {
		list := []api.Marks{api.Marks(m), 0}
		wantHolds(t, x, nil, list, api.PlusDelta, 1, m&1 != 0)
		wantHolds(t, x, nil, list, api.MinusDelta, 1, m&2 != 0)
		slices.Reverse(list)
		wantHolds(t, x, nil, list, api.PlusDelta, 1, false)
		wantHolds(t, x, nil, list, api.MinusDelta, 1, false)
	}
}
