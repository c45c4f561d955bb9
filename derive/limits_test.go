package derive_test

import (
	"slices"
	"testing"

	"lexprior/api"
	"lexprior/derive"
)

// held, won, lost: the marks that literals mostly have: +D +d, -D +d, -D -d.
const (
	held api.Marks = 5
	won  api.Marks = 6
	lost api.Marks = 10
)

// many: so many literals with the same marks.
func many(n int, said api.Marks) []api.Marks {
	return slices.Repeat([]api.Marks{said}, n)
}

// wantWhole: All has just these; what its last step needs is lean; and with a step behind it that does not follow it is none.
func wantWhole(t *testing.T, x api.Theory, facts []int, want []api.Marks) {
	t.Helper()
	l := wantAll(t, x, facts, want)
	last := l[len(l)-1]
	lean, errno := derive.Lean(x, facts, l)
	if why := notLean(x, lean); errno != api.OK || why != "" || !derive.Same(lean[len(lean)-1], last) {
		t.Errorf("P20.4: Lean(%s): %d: %s", told(l), errno, why)
	}
	wrong := append(slices.Clone(l), api.Step{Tag: last.Tag, Lit: x.Lits, How: last.How, Rule: last.Rule, Choices: last.Choices})
	wantFault(t, x, facts, wrong, api.ErrStep, len(l))
}

// TestLongChains: and the longest derivations: all of 2 * Lits steps are needed.
func TestLongChains(t *testing.T) {
	t.Parallel()
	for _, kind := range []api.Arrow{api.Strict, api.Defeasible} {
		up, down := plain(4096), plain(4096)
		for r := range 4095 {
			up.Rules = append(up.Rules, rule(kind, r+1, r))
			down.Rules = append(down.Rules, rule(kind, r, r+1))
		}
		up.Beats, down.Beats = make([][]int, 4095), make([][]int, 4095)
		ends := many(4096, held)
		if kind == api.Defeasible {
			ends = append(many(1, held), many(4095, won)...)
		}
		wantWhole(t, up, lits(0), ends)
		wantWhole(t, up, nil, many(4096, lost))
		wantLength(t, derived(t, up, lits(0), 4095, api.PlusPartial), 4097)
		slices.Reverse(ends)
		wantWhole(t, down, lits(4095), ends)
		wantWhole(t, down, nil, many(4096, lost))
		wantLength(t, derived(t, down, nil, 0, api.MinusPartial), 8192)
	}
}

func wantLength(t *testing.T, l []api.Step, want int) {
	t.Helper()
	if len(l) != want {
		t.Errorf("P20.2: %d steps, want %d: %s", len(l), want, told(l))
	}
}

// TestMostOfAll: literals, rules and pairs: groups of sixteen foes, each of which leads on to the next group, where the first beats all others.
func TestMostOfAll(t *testing.T) {
	t.Parallel()
	x := plain(4096)
	for q := range 4096 {
		group := q / 16 * 16
		var body []int
		if group > 0 {
			body = lits(group - 16)
		}
		x.Rules = append(x.Rules, rule(api.Defeasible, q, body...))
		x.Beats = append(x.Beats, nil)
		for other := group; other < group+16; other++ {
			if other != q {
				x.Foes[q] = append(x.Foes[q], other)
			}
			if other > q {
				x.Beats[q] = append(x.Beats[q], other)
			}
		}
	}
	wantWhole(t, x, nil, slices.Repeat(append(many(1, won), many(15, lost)...), 256))
	wantLength(t, derived(t, x, nil, 4080, api.PlusPartial), 16*256)
	// Without superiority nothing wins, and behind the first group nothing has a rule left.
	x.Beats = make([][]int, 4096)
	wantWhole(t, x, nil, many(4096, lost))
}

// TestMostPairs: and the longest bodies; the last of the one side beats all of the other.
func TestMostPairs(t *testing.T) {
	t.Parallel()
	x := plain(18)
	enemies(&x, 16, 17)
	for range 181 {
		x.Rules = append(x.Rules, rule(api.Defeasible, 16, upTo(16)...))
	}
	for range 181 {
		x.Rules = append(x.Rules, rule(api.Defeater, 17, upTo(16)...))
	}
	x.Beats = make([][]int, len(x.Rules))
	wantWhole(t, x, upTo(16), append(many(16, held), lost, lost))
	x.Beats[180] = upTo(362)[181:]
	wantWhole(t, x, upTo(16), append(many(16, held), won, lost))
	wantWhole(t, x, upTo(15), append(many(15, held), lost, lost, lost))
	if l := derived(t, x, upTo(16), 16, api.PlusPartial); len(l[len(l)-1].Choices) != 181 || l[len(l)-1].Choices[180] != (api.Choice{Place: -1, Rule: 180}) {
		t.Errorf("P20.2: %s", told(l))
	}
}

// TestMostRules: all but one are for one literal, which is a foe of the most; lists of the most steps, each of which names another of these rules.
func TestMostRules(t *testing.T) {
	t.Parallel()
	x := plain(66, rule(api.Defeasible, 0, 65))
	for foe := 1; foe < 65; foe++ {
		enemies(&x, 0, foe)
	}
	for range 4095 {
		x.Rules = append(x.Rules, rule(api.Defeasible, 1))
	}
	x.Beats = make([][]int, 4096)
	wantWhole(t, x, lits(65), slices.Concat(many(65, lost), many(1, held)))
	beaten := steps("-D 0 none; +D 65 fact; +d 65 strict")
	for n := range api.MaxSteps - len(beaten) {
		beaten = append(beaten, api.Step{Tag: api.MinusPartial, Lit: 0, How: api.HowBeaten, Rule: 1 + n%4095})
	}
	wantChecked(t, x, lits(65), beaten)
	wantLean(t, x, lits(65), beaten, steps("-D 0 none; -d 0 beaten 1"))
	beaten[len(beaten)-1].Rule = 0
	wantFault(t, x, lits(65), beaten, api.ErrStep, len(beaten)-1)
	// The one rule beats all of them.
	x.Beats[0] = upTo(4096)[1:]
	wantWhole(t, x, lits(65), slices.Concat(many(1, won), many(64, lost), many(1, held)))
	wantWhole(t, x, nil, slices.Concat(many(1, lost), many(1, won), many(64, lost)))
	l := derived(t, x, lits(65), 0, api.PlusPartial)
	wantLength(t, l, 64+3)
	wrong := slices.Clone(l)
	last := &wrong[len(l)-1]
	last.Choices = append(slices.Clone(last.Choices[:4094]), api.Choice{Place: -1, Rule: 1})
	wantFault(t, x, lits(65), wrong, api.ErrStep, len(l)-1)
	last.Choices = last.Choices[:4094]
	wantFault(t, x, lits(65), wrong, api.ErrStep, len(l)-1)
}

// TestPastTheMost: one literal, one rule, one of a body more is refused.
func TestPastTheMost(t *testing.T) {
	wantAllRefused(t, plain(4097), nil, api.ErrLits)
	wantDeriveRefused(t, plain(4097), nil, 0, api.MinusDelta, api.ErrLits)
	wantDeriveRefused(t, plain(4096), nil, 4096, api.MinusDelta, api.ErrLit)
	derived(t, plain(4096), nil, 4095, api.MinusDelta)
	wantWhole(t, plain(4096), nil, many(4096, lost))
	wantAllRefused(t, plain(4096), upTo(4097), api.ErrFact)
	wantWhole(t, plain(4096), upTo(4096), many(4096, held))
	wantAllRefused(t, plain(1, slices.Repeat([]api.Rule{rule(api.Defeasible, 0)}, 4097)...), nil, api.ErrGround)
	wantWhole(t, plain(1, slices.Repeat([]api.Rule{rule(api.Defeasible, 0)}, 4096)...), nil, many(1, won))
	wantAllRefused(t, plain(17, rule(api.Defeasible, 0, upTo(17)...)), nil, api.ErrRule)
	wantWhole(t, plain(17, rule(api.Defeasible, 16, upTo(16)...)), upTo(16), append(many(16, held), won))
}
