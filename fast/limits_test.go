package fast_test

import (
	"slices"
	"testing"

	"lexprior/api"
)

// rule: of that kind.
func rule(kind api.Arrow, head int, body ...int) api.Rule {
	return api.Rule{Kind: kind, Head: head, Body: body}
}

// many: so many literals with the same marks.
func many(n int, said string) []api.Marks {
	return slices.Repeat(marks(said), n)
}

func TestLongChains(t *testing.T) {
	t.Parallel()
	for _, kind := range []api.Arrow{api.Strict, api.Defeasible} {
		up, down := plain(4096), plain(4096)
		for r := range 4095 {
			up.Rules = append(up.Rules, rule(kind, r+1, r))
			down.Rules = append(down.Rules, rule(kind, r, r+1))
		}
		up.Beats, down.Beats = make([][]int, 4095), make([][]int, 4095)
		ends := many(4096, held)
		if kind == api.Defeasible {
			ends = append(marks(held), many(4095, won)...)
		}
		wantRun(t, up, lits(0), ends)
		wantRun(t, up, nil, many(4096, lost))
		slices.Reverse(ends)
		wantRun(t, down, lits(4095), ends)
		wantRun(t, down, nil, many(4096, lost))
	}
}

func TestLongRing(t *testing.T) {
	t.Parallel()
	x := plain(4096)
	for r := range 4096 {
		x.Rules = append(x.Rules, rule(api.Defeasible, r, (r+1)%4096))
	}
	x.Beats = make([][]int, 4096)
	wantRun(t, x, nil, many(4096, open))
	wantRun(t, x, lits(7), slices.Concat(many(7, won), marks(held), many(4088, won)))
}

// TestMostOfAll: literals, rules and pairs: groups of sixteen foes, each of which leads on to the next group, where the first beats all others.
func TestMostOfAll(t *testing.T) {
	t.Parallel()
	x := plain(4096)
	for q := range 4096 {
		group := q / 16 * 16
		var body []int
		if group > 0 {
			body = lits(group - 16)
		}
		x.Rules = append(x.Rules, rule(api.Defeasible, q, body...))
		x.Beats = append(x.Beats, nil)
		for other := group; other < group+16; other++ {
			if other != q {
				x.Foes[q] = append(x.Foes[q], other)
			}
			if other > q {
				x.Beats[q] = append(x.Beats[q], other)
			}
		}
	}
	group := append(marks(won), many(15, lost)...)
	wantRun(t, x, nil, slices.Repeat(group, 256))
	// Without superiority nothing wins, and behind the first group nothing has a rule left.
	x.Beats = make([][]int, 4096)
	wantRun(t, x, nil, many(4096, lost))
}

// TestMostPairs: and the longest bodies; the last of the one side beats all of the other.
func TestMostPairs(t *testing.T) {
	t.Parallel()
	x := plain(18)
	enemies(&x, 16, 17)
	for range 181 {
		x.Rules = append(x.Rules, rule(api.Defeasible, 16, upTo(16)...))
	}
	for range 181 {
		x.Rules = append(x.Rules, rule(api.Defeater, 17, upTo(16)...))
	}
	x.Beats = make([][]int, len(x.Rules))
	wantRun(t, x, upTo(16), append(many(16, held), marks(lost, lost)...))
	x.Beats[180] = upTo(362)[181:]
	wantRun(t, x, upTo(16), append(many(16, held), marks(won, lost)...))
	wantRun(t, x, upTo(15), append(many(15, held), marks(lost, lost, lost)...))
	x.Beats[180] = upTo(361)[181:]
	wantRun(t, x, upTo(16), append(many(16, held), marks(lost, lost)...))
}

func TestMostFoes(t *testing.T) {
	t.Parallel()
	x := plain(4096)
	for first := 0; first+64 < 4096; first += 65 {
		enemies(&x, upTo(first + 65)[first:]...)
	}
	wantRun(t, x, upTo(4096), many(4096, held))
	wantRun(t, x, nil, many(4096, lost))
	x.Rules, x.Beats = []api.Rule{rule(api.Defeasible, 0)}, make([][]int, 1)
	wantRun(t, x, nil, append(marks(won), many(4095, lost)...))
	wantRun(t, x, lits(64), slices.Concat(many(64, lost), marks(held), many(4031, lost)))
	wantRun(t, x, lits(65), slices.Concat(marks(won), many(64, lost), marks(held), many(4030, lost)))
}

// TestPastTheMost: one literal, one rule, one of a body more is refused.
func TestPastTheMost(t *testing.T) {
	wantRefused(t, plain(4097), nil, api.ErrLits)
	wantDifferRefused(t, plain(4097), nil, nil, api.ErrLits)
	wantRun(t, plain(4096), nil, many(4096, lost))
	wantRefused(t, plain(4096), upTo(4097), api.ErrFact)
	wantDifferRefused(t, plain(4096), nil, lits(4096), api.ErrFact)
	wantDiffer(t, plain(4096), nil, upTo(4096), upTo(4096))
	wantHoldsRefused(t, plain(4096), nil, 4096, api.MinusDelta, api.ErrLit)
	wantHolds(t, plain(4096), nil, 4095, api.MinusDelta, true)
	wantRefused(t, plain(1, slices.Repeat([]api.Rule{rule(api.Defeasible, 0)}, 4097)...), nil, api.ErrGround)
	wantRun(t, plain(1, slices.Repeat([]api.Rule{rule(api.Defeasible, 0)}, 4096)...), nil, marks(won))
	wantRefused(t, plain(17, rule(api.Defeasible, 0, upTo(17)...)), nil, api.ErrRule)
	wantRun(t, plain(17, rule(api.Defeasible, 16, upTo(16)...)), upTo(16), append(many(16, held), marks(won)...))
}

// TestMostRules: for one literal, with the longest bodies: all are used, all are refuted, all but the last are.
func TestMostRules(t *testing.T) {
	t.Parallel()
	for _, kind := range []api.Arrow{api.Strict, api.Defeasible} {
		x := plain(18, slices.Repeat([]api.Rule{rule(kind, 17, upTo(16)...)}, 4096)...)
		head := won
		if kind == api.Strict {
			head = held
		}
		wantRun(t, x, upTo(16), slices.Concat(many(16, held), marks(lost, head)))
		wantRun(t, x, upTo(15), slices.Concat(many(15, held), marks(lost, lost, lost)))
		wantRun(t, x, nil, many(18, lost))
		x.Rules[4095] = rule(kind, 17, 16)
		wantRun(t, x, lits(16), slices.Concat(many(16, lost), marks(held, head)))
	}
}
