package naive_test

import (
	"slices"
	"testing"

	"lexprior/api"
)

// rule: of that kind.
func rule(kind api.Arrow, head int, body ...int) api.Rule {
	return api.Rule{Kind: kind, Head: head, Body: body}
}

// many: so many literals with the same marks.
func many(n int, said string) []api.Marks {
	return slices.Repeat(marks(said), n)
}

func TestLongChains(t *testing.T) {
	t.Parallel()
	for _, kind := range []api.Arrow{api.Strict, api.Defeasible} {
		up, down := plain(4096), plain(4096)
		for r := range 4095 {
			up.Rules = append(up.Rules, rule(kind, r+1, r))
			down.Rules = append(down.Rules, rule(kind, r, r+1))
		}
		up.Beats, down.Beats = make([][]int, 4095), make([][]int, 4095)
		ends := many(4096, held)
		if kind == api.Defeasible {
			ends = append(marks(held), many(4095, won)...)
		}
		wantSolved(t, up, lits(0), 4097, ends)
		wantSolved(t, up, nil, 4097, many(4096, lost))
		slices.Reverse(ends)
		wantSolved(t, down, lits(4095), 4097, ends)
		wantSolved(t, down, nil, 4097, many(4096, lost))
	}
}

func TestLongRing(t *testing.T) {
	t.Parallel()
	x := plain(4096)
	for r := range 4096 {
		x.Rules = append(x.Rules, rule(api.Defeasible, r, (r+1)%4096))
	}
	x.Beats = make([][]int, 4096)
	wantSolved(t, x, nil, 1, many(4096, open))
	wantSolved(t, x, lits(7), 4097, slices.Concat(many(7, won), marks(held), many(4088, won)))
}

// TestMostOfAll: literals, rules and pairs: groups of sixteen foes, each of which leads on to the next group, where the first beats all others.
func TestMostOfAll(t *testing.T) {
	t.Parallel()
	x := plain(4096)
	for q := range 4096 {
		group := q / 16 * 16
		var body []int
		if group > 0 {
			body = lits(group - 16)
		}
		x.Rules = append(x.Rules, rule(api.Defeasible, q, body...))
		x.Beats = append(x.Beats, nil)
		for other := group; other < group+16; other++ {
			if other != q {
				x.Foes[q] = append(x.Foes[q], other)
			}
			if other > q {
				x.Beats[q] = append(x.Beats[q], other)
			}
		}
	}
	group := append(marks(won), many(15, lost)...)
	wantSolved(t, x, nil, 257, slices.Repeat(group, 256))
	// Without superiority nothing wins, and behind the first group nothing has a rule left.
	x.Beats = make([][]int, 4096)
	wantSolved(t, x, nil, 257, many(4096, lost))
}

// TestMostPairs: and the longest bodies; the last of the one side beats all of the other.
func TestMostPairs(t *testing.T) {
	t.Parallel()
	x := plain(18)
	enemies(&x, 16, 17)
	for range 181 {
		x.Rules = append(x.Rules, rule(api.Defeasible, 16, upTo(16)...))
	}
	for range 181 {
		x.Rules = append(x.Rules, rule(api.Defeater, 17, upTo(16)...))
	}
	x.Beats = make([][]int, len(x.Rules))
	wantSolved(t, x, upTo(16), 3, append(many(16, held), marks(lost, lost)...))
	x.Beats[180] = upTo(362)[181:]
	wantSolved(t, x, upTo(16), 3, append(many(16, held), marks(won, lost)...))
	wantSolved(t, x, upTo(15), 3, append(many(15, held), marks(lost, lost, lost)...))
	x.Beats[180] = upTo(361)[181:]
	wantSolved(t, x, upTo(16), 3, append(many(16, held), marks(lost, lost)...))
}

func TestMostFoes(t *testing.T) {
	t.Parallel()
	x := plain(4096)
	for first := 0; first+64 < 4096; first += 65 {
		enemies(&x, upTo(first + 65)[first:]...)
	}
	wantSolved(t, x, upTo(4096), 2, many(4096, held))
	wantSolved(t, x, nil, 2, many(4096, lost))
	x.Rules, x.Beats = []api.Rule{rule(api.Defeasible, 0)}, make([][]int, 1)
	wantSolved(t, x, nil, 2, append(marks(won), many(4095, lost)...))
	wantSolved(t, x, lits(64), 2, slices.Concat(many(64, lost), marks(held), many(4031, lost)))
	wantSolved(t, x, lits(65), 2, slices.Concat(marks(won), many(64, lost), marks(held), many(4030, lost)))
}

// TestPastTheMost: one literal, one rule, one of a body, one mark more is refused.
func TestPastTheMost(t *testing.T) {
	wantRefused(t, plain(4097), nil, api.ErrLits)
	wantRoundRefused(t, plain(4097), nil, make([]api.Marks, 4097), api.ErrLits)
	wantSolved(t, plain(4096), nil, 2, many(4096, lost))
	wantRefused(t, plain(4096), upTo(4097), api.ErrFact)
	wantRoundRefused(t, plain(4096), nil, make([]api.Marks, 4097), api.ErrCount)
	wantRoundRefused(t, plain(4096), nil, make([]api.Marks, 4095), api.ErrCount)
	wantRound(t, plain(4096), nil, make([]api.Marks, 4096), many(4096, open))
	wantHoldsRefused(t, plain(4096), nil, make([]api.Marks, 4096), api.MinusDelta, 4096, api.ErrArg)
	wantHolds(t, plain(4096), nil, make([]api.Marks, 4096), api.MinusDelta, 4095, true)
	wantRefused(t, plain(1, slices.Repeat([]api.Rule{rule(api.Defeasible, 0)}, 4097)...), nil, api.ErrGround)
	wantSolved(t, plain(1, slices.Repeat([]api.Rule{rule(api.Defeasible, 0)}, 4096)...), nil, 1, marks(won))
	wantRefused(t, plain(17, rule(api.Defeasible, 0, upTo(17)...)), nil, api.ErrRule)
	wantSolved(t, plain(17, rule(api.Defeasible, 16, upTo(16)...)), upTo(16), 3, append(many(16, held), marks(won)...))
}
