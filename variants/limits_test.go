package variants_test

import (
	"slices"
	"testing"

	"lexprior/api"
	"lexprior/theory"
)

// rule: of that kind.
func rule(kind api.Arrow, head int, body ...int) api.Rule {
	return api.Rule{Kind: kind, Head: head, Body: body}
}

// many: so many literals with the same marks.
func many(n int, said string) []api.Marks {
	return slices.Repeat(marks(said), n)
}

// wantGreat: what is written out, beside what the fast engine says.
func wantGreat(t testing.TB, x api.Theory, facts []int, propagated, supported []api.Marks) answered {
	t.Helper()
	wantMarks(t, x, facts, propagated, supported)
	a := asked(t, x, facts)
	wantIncluded(t, x, facts, a, tally{})
	wantCoherent(t, x, facts, a, tally{})
	return a
}

// wantGreatAlike: in all three logics.
func wantGreatAlike(t testing.TB, x api.Theory, facts []int, want []api.Marks) {
	t.Helper()
	a := wantGreat(t, x, facts, want, want)
	if !slices.Equal(a.defeasible, want) {
		t.Errorf("Run(%s, %s): %s, want %s", told(x), told(facts), told(a.defeasible), told(want))
	}
}

func TestLongChains(t *testing.T) {
	t.Parallel()
	for _, kind := range []api.Arrow{api.Strict, api.Defeasible} {
		up, down := plain(4096), plain(4096)
		for r := range 4095 {
			up.Rules = append(up.Rules, rule(kind, r+1, r))
			down.Rules = append(down.Rules, rule(kind, r, r+1))
		}
		up.Beats, down.Beats = make([][]int, 4095), make([][]int, 4095)
		ends := many(4096, held)
		if kind == api.Defeasible {
			ends = append(marks(held), many(4095, won)...)
		}
		wantGreatAlike(t, up, lits(0), ends)
		wantGreatAlike(t, up, nil, many(4096, lost))
		slices.Reverse(ends)
		wantGreatAlike(t, down, lits(4095), ends)
		wantGreatAlike(t, down, nil, many(4096, lost))
	}
}

func TestLongRing(t *testing.T) {
	t.Parallel()
	x := plain(4096)
	for r := range 4096 {
		x.Rules = append(x.Rules, rule(api.Defeasible, r, (r+1)%4096))
	}
	x.Beats = make([][]int, 4096)
	wantGreatAlike(t, x, nil, many(4096, open))
	wantGreatAlike(t, x, lits(7), slices.Concat(many(7, won), marks(held), many(4088, won)))
}

// TestLongDoubt: it goes on through all pairs of foes, in both orders of numbers. Defeasibly it is stopped at each second one.
func TestLongDoubt(t *testing.T) {
	t.Parallel()
	up := plain(4096)
	for q := 0; q < 4096; q += 2 {
		enemies(&up, q, q+1)
		var body []int
		if q > 0 {
			body = lits(q - 1)
		}
		up.Rules = append(up.Rules, rule(api.Defeasible, q, body...), rule(api.Defeasible, q+1))
	}
	up.Beats = make([][]int, 4096)
	back := upTo(4096)
	slices.Reverse(back)
	for _, x := range []api.Theory{up, renumbered(up, back, back), renumbered(up, back, upTo(4096))} {
		a := wantGreat(t, x, nil, many(4096, lost), many(4096, won))
		stopped := 0
		for _, said := range a.defeasible {
			if said == marks(won)[0] {
				stopped++
			}
		}
		if stopped != 1024 {
			t.Errorf("defeasibly %d win", stopped)
		}
	}
	// It begins later, if the first pair is not in doubt.
	up.Beats[0] = lits(1)
	wantGreat(t, up, nil, append(marks(won, lost, lost, won), many(4092, lost)...), append(marks(won, lost, lost, won), many(4092, won)...))
}

// TestMostOfAll: literals, rules and pairs: groups of sixteen foes, each of which leads on to the next group, where the first beats all others.
func TestMostOfAll(t *testing.T) {
	t.Parallel()
	x := plain(4096)
	for q := range 4096 {
		group := q / 16 * 16
		var body []int
		if group > 0 {
			body = lits(group - 16)
		}
		x.Rules = append(x.Rules, rule(api.Defeasible, q, body...))
		x.Beats = append(x.Beats, nil)
		for other := group; other < group+16; other++ {
			if other != q {
				x.Foes[q] = append(x.Foes[q], other)
			}
			if other > q {
				x.Beats[q] = append(x.Beats[q], other)
			}
		}
	}
	group := append(marks(won), many(15, lost)...)
	wantGreatAlike(t, x, nil, slices.Repeat(group, 256))
	// Without superiority all is doubtful, and all has support.
	x.Beats = make([][]int, 4096)
	wantGreat(t, x, nil, many(4096, lost), many(4096, won))
}

// mostPairs: 181 rules against 181 defeaters, with the longest bodies.
func mostPairs() api.Theory {
	x := plain(18)
	enemies(&x, 16, 17)
	for range 181 {
		x.Rules = append(x.Rules, rule(api.Defeasible, 16, upTo(16)...))
	}
	for range 181 {
		x.Rules = append(x.Rules, rule(api.Defeater, 17, upTo(16)...))
	}
	x.Beats = make([][]int, len(x.Rules))
	return x
}

func TestMostPairs(t *testing.T) {
	t.Parallel()
	ends := func(said ...string) []api.Marks { return append(many(16, held), marks(said...)...) }
	x := mostPairs()
	wantGreat(t, x, upTo(16), ends(lost, lost), ends(won, lost))
	wantGreatAlike(t, x, upTo(15), append(many(15, held), marks(lost, lost, lost)...))
	// The last of the one side beats all of the other, or all but one.
	x.Beats[180] = upTo(362)[181:]
	wantGreatAlike(t, x, upTo(16), ends(won, lost))
	x.Beats[180] = upTo(361)[181:]
	wantGreat(t, x, upTo(16), ends(lost, lost), ends(won, lost))
	// The last defeater does.
	x = mostPairs()
	x.Beats[361] = upTo(181)
	wantGreatAlike(t, x, upTo(16), ends(lost, lost))
	x.Beats[361] = upTo(180)
	wantGreat(t, x, upTo(16), ends(lost, lost), ends(won, lost))
}

// TestMostPairsOneByOne: each rule of either side waits for another place of a chain, so that each is asked for anew.
func TestMostPairsOneByOne(t *testing.T) {
	t.Parallel()
	x := plain(4096)
	enemies(&x, 0, 1)
	for r := range 362 {
		x.Rules = append(x.Rules, rule(api.Defeasible, r%2, upTo(10 * (r + 2))[10*(r+1):]...))
	}
	for q := 2; q < 3735; q++ {
		x.Rules = append(x.Rules, rule(api.Defeasible, q, q+1))
	}
	x.Beats = make([][]int, len(x.Rules))
	for r := 0; r < 362; r += 2 {
		for s := 1; s < 362; s += 2 {
			if s != 1 {
				x.Beats[r] = append(x.Beats[r], s)
			}
		}
	}
	if pairs, errno := theory.Pairs(x); errno != api.OK || pairs != 2*181*181 {
		t.Fatalf("Pairs: %d, %d", pairs, errno)
	}
	rest := slices.Concat(many(3733, won), marks(held), many(360, lost))
	wantGreat(t, x, lits(3735), slices.Concat(marks(lost, lost), rest), slices.Concat(marks(won, won), rest))
	insert(&x.Beats[0], 1)
	wantGreatAlike(t, x, lits(3735), slices.Concat(marks(won, lost), rest))
	wantGreatAlike(t, x, nil, many(4096, lost))
}

func TestMostFoes(t *testing.T) {
	t.Parallel()
	x := plain(4096)
	for first := 0; first+64 < 4096; first += 65 {
		enemies(&x, upTo(first + 65)[first:]...)
	}
	wantGreatAlike(t, x, upTo(4096), many(4096, held))
	wantGreatAlike(t, x, nil, many(4096, lost))
	x.Rules, x.Beats = []api.Rule{rule(api.Defeasible, 0)}, make([][]int, 1)
	wantGreatAlike(t, x, nil, append(marks(won), many(4095, lost)...))
	rest := slices.Concat(many(63, lost), marks(held), many(4031, lost))
	wantGreat(t, x, lits(64), append(marks(lost), rest...), append(marks(won), rest...))
	wantGreatAlike(t, x, lits(65), slices.Concat(marks(won), many(64, lost), marks(held), many(4030, lost)))
}

// TestMostRules: for one literal, with the longest bodies: all are used, all are refuted, all but the last are.
func TestMostRules(t *testing.T) {
	t.Parallel()
	for _, kind := range []api.Arrow{api.Strict, api.Defeasible} {
		x := plain(18, slices.Repeat([]api.Rule{rule(kind, 17, upTo(16)...)}, 4096)...)
		head := won
		if kind == api.Strict {
			head = held
		}
		wantGreatAlike(t, x, upTo(16), slices.Concat(many(16, held), marks(lost, head)))
		wantGreatAlike(t, x, upTo(15), slices.Concat(many(15, held), marks(lost, lost, lost)))
		x.Rules[4095] = rule(kind, 17, 16)
		wantGreatAlike(t, x, lits(16), slices.Concat(many(16, lost), marks(held, head)))
	}
}

// TestPastTheMost: one literal, one rule, one of a body more is refused.
func TestPastTheMost(t *testing.T) {
	wantRefused(t, plain(4097), nil, api.ErrLits)
	wantGreatAlike(t, plain(4096), nil, many(4096, lost))
	wantRefused(t, plain(4096), upTo(4097), api.ErrFact)
	wantRefused(t, plain(1, slices.Repeat([]api.Rule{rule(api.Defeasible, 0)}, 4097)...), nil, api.ErrGround)
	wantGreatAlike(t, plain(1, slices.Repeat([]api.Rule{rule(api.Defeasible, 0)}, 4096)...), nil, marks(won))
	wantRefused(t, plain(17, rule(api.Defeasible, 0, upTo(17)...)), nil, api.ErrRule)
	wantGreatAlike(t, plain(17, rule(api.Defeasible, 16, upTo(16)...)), upTo(16), append(many(16, held), marks(won)...))
	x := mostPairs()
	x.Rules = append(x.Rules, rule(api.Defeater, 17))
	x.Beats = append(x.Beats, nil)
	wantRefused(t, x, nil, api.ErrPairs)
}
