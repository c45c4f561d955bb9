package naive_test

import (
	"testing"

	"lexprior/api"
	"lexprior/naive"
)

// TestListsThatNoRoundGives: what is there stays, whatever it is, and what follows by it comes.
func TestListsThatNoRoundGives(t *testing.T) {
	x := from("3; 2 => 0; => 1; 0 # 1; 0 > 1")
	// Tags that do not hold.
	wantRound(t, x, nil, marks(none, none, held), marks(open, open, "+D -D +d"))
	wantRound(t, x, nil, marks(held, held, held), marks("+D -D +d", "+D -D +d", "+D -D +d"))
	wantRound(t, x, lits(2), marks(lost, lost, lost), marks(lost, "-D +d -d", "+D -D -d"))
	// +D and -D, +d and -d of one literal.
	both := "+D -D +d -d"
	wantRound(t, x, lits(2), marks(both, both, both), marks(both, both, both))
	wantRound(t, x, lits(2), marks(none, "+D -D", "+d -d"), marks(won, both, "+D +d -d"))
	wantRound(t, x, lits(2), marks("-D", "+D -D", "+d -d"), marks("-D +d -d", both, "+D +d -d"))
	// +d of a fact without +D.
	wantRound(t, x, lits(2), marks(open, open, "+d"), marks(won, lost, held))
	wantRound(t, x, lits(2), marks(none, none, "-d"), marks(open, open, "+D -d"))
	// A fact that the list refutes.
	wantRound(t, plain(1), lits(0), marks("-D"), marks("+D -D -d"))
}

// TestBitsThatNoTagHas: they stay, and nothing follows by them.
func TestBitsThatNoTagHas(t *testing.T) {
	x := from("3; 2 => 0; => 1; 0 # 1; 0 > 1")
	for extra := range 16 {
		stray := api.Marks(extra << 4)
		for _, facts := range [][]int{nil, {2}, {0, 1}} {
			m := make([]api.Marks, 3)
			for {
				next, errno := naive.Round(x, facts, m)
				if errno != api.OK {
					t.Fatalf("P15.2: Round: %d", errno)
				}
				with := func(list []api.Marks) []api.Marks {
					return []api.Marks{list[0] | stray, list[1] | stray, list[2] | stray}
				}
				wantRound(t, x, facts, with(m), with(next))
				for q := range 3 {
					for _, tag := range tags {
						holds, _ := naive.Holds(x, facts, m, tag, q)
						wantHolds(t, x, facts, with(m), tag, q, holds)
					}
				}
				if told(next) == told(m) {
					break
				}
				m = next
			}
		}
	}
	wantRound(t, plain(1), nil, []api.Marks{0xF0}, []api.Marks{0xF2})
	wantRound(t, plain(1), nil, []api.Marks{0x12}, []api.Marks{0x1A})
}
