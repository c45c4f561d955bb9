package checker_test

import (
	"slices"
	"testing"

	"lexprior/api"
	"lexprior/checker"
)

// held, won, lost: the marks that literals mostly have: +D +d, -D +d, -D -d.
const (
	held api.Marks = 5
	won  api.Marks = 6
	lost api.Marks = 10
)

// many: so many literals with the same marks.
func many(n int, said api.Marks) []api.Marks {
	return slices.Repeat([]api.Marks{said}, n)
}

// wantAll: Whole shows just these; it is refused with a step behind it that does not follow.
func wantAll(t *testing.T, x api.Theory, facts []int, want []api.Marks) {
	t.Helper()
	b := wantWhole(t, x, facts, want)
	l, _, _ := modelDecode(b)
	last := l[len(l)-1]
	if c, errno, at := checker.Check(x, facts, b); c != (checker.Claim{Lit: last.Lit, Tag: last.Tag, Steps: len(l)}) || errno != api.OK || at != len(b) {
		t.Errorf("P22.1: Check: %+v, %d, %d, want %s", c, errno, at, told(last))
	}
	wantClaimRefused(t, "a fact of another", x, facts, append(l, step("+D 4095 fact 7")), len(l))
}

// wantSteps: Certify's bytes have so many.
func wantSteps(t *testing.T, x api.Theory, facts []int, lit int, tag api.Tag, want int) {
	t.Helper()
	if c, _, _ := checker.Check(x, facts, certified(t, x, facts, lit, tag)); c.Steps != want {
		t.Errorf("P22.7: Certify(.., %d, %d): %d steps, want %d", lit, tag, c.Steps, want)
	}
}

// TestLongChains: and the longest derivations: all of 2 * Lits steps are needed.
func TestLongChains(t *testing.T) {
	t.Parallel()
	for _, kind := range []api.Arrow{api.Strict, api.Defeasible} {
		up, down := plain(4096), plain(4096)
		for r := range 4095 {
			up.Rules = append(up.Rules, rule(kind, r+1, r))
			down.Rules = append(down.Rules, rule(kind, r, r+1))
		}
		up.Beats, down.Beats = make([][]int, 4095), make([][]int, 4095)
		ends := many(4096, held)
		if kind == api.Defeasible {
			ends = append(many(1, held), many(4095, won)...)
		}
		wantAll(t, up, lits(0), ends)
		wantAll(t, up, nil, many(4096, lost))
		wantSteps(t, up, lits(0), 4095, api.PlusPartial, 4097)
		slices.Reverse(ends)
		wantAll(t, down, lits(4095), ends)
		wantAll(t, down, nil, many(4096, lost))
		wantSteps(t, down, nil, 0, api.MinusPartial, 8192)
	}
}

// TestMostOfAll: literals, rules and pairs: groups of sixteen foes, each of which leads on to the next group, where the first beats all others.
func TestMostOfAll(t *testing.T) {
	t.Parallel()
	x := plain(4096)
	for q := range 4096 {
		group := q / 16 * 16
		var body []int
		if group > 0 {
			body = lits(group - 16)
		}
		x.Rules = append(x.Rules, rule(api.Defeasible, q, body...))
		x.Beats = append(x.Beats, nil)
		for other := group; other < group+16; other++ {
			if other != q {
				x.Foes[q] = append(x.Foes[q], other)
			}
			if other > q {
				x.Beats[q] = append(x.Beats[q], other)
			}
		}
	}
	wantAll(t, x, nil, slices.Repeat(append(many(1, won), many(15, lost)...), 256))
	wantSteps(t, x, nil, 4080, api.PlusPartial, 16*256)
	x.Beats = make([][]int, 4096)
	wantAll(t, x, nil, many(4096, lost))
}

// TestMostPairs: and the longest bodies; the last of the one side beats all of the other.
func TestMostPairs(t *testing.T) {
	t.Parallel()
	x := plain(18)
	enemies(&x, 16, 17)
	for range 181 {
		x.Rules = append(x.Rules, rule(api.Defeasible, 16, upTo(16)...))
	}
	for range 181 {
		x.Rules = append(x.Rules, rule(api.Defeater, 17, upTo(16)...))
	}
	x.Beats = make([][]int, len(x.Rules))
	wantAll(t, x, upTo(16), append(many(16, held), lost, lost))
	x.Beats[180] = upTo(362)[181:]
	wantAll(t, x, upTo(16), append(many(16, held), won, lost))
	wantAll(t, x, upTo(15), append(many(15, held), lost, lost, lost))
	l, _, _ := modelDecode(certified(t, x, upTo(16), 16, api.PlusPartial))
	last := &l[len(l)-1]
	if len(last.Choices) != 181 || last.Choices[180] != (api.Choice{Place: -1, Rule: 180}) {
		t.Fatalf("P22.2: %s", told(l))
	}
	// The only ones that beat are asked to the last.
	for _, c := range []api.Choice{{Place: -1, Rule: 179}, {Place: -1, Rule: 361}, {Place: 15, Rule: -1}, {Place: -1, Rule: -1}} {
		last.Choices[180] = c
		wantClaimRefused(t, "the last choice", x, upTo(16), l, len(l)-1)
	}
}

// TestMostRules: all but one are for one literal, which is a foe of the most; lists of the most steps, each of which names another of these rules.
func TestMostRules(t *testing.T) {
	t.Parallel()
	x := plain(66, rule(api.Defeasible, 0, 65))
	for foe := 1; foe < 65; foe++ {
		enemies(&x, 0, foe)
	}
	for range 4095 {
		x.Rules = append(x.Rules, rule(api.Defeasible, 1))
	}
	x.Beats = make([][]int, 4096)
	wantAll(t, x, lits(65), slices.Concat(many(65, lost), many(1, held)))
	beaten := steps("-D 0 none; +D 65 fact; +d 65 strict")
	for n := range api.MaxSteps - len(beaten) {
		beaten = append(beaten, api.Step{Tag: api.MinusPartial, Lit: 0, How: api.HowBeaten, Rule: 1 + n%4095})
	}
	wantTaken(t, "the most steps", x, lits(65), beaten)
	beaten[len(beaten)-1].Rule = 0
	wantClaimRefused(t, "the last of the most steps", x, lits(65), beaten, len(beaten)-1)
	// The one rule beats all of them.
	x.Beats[0] = upTo(4096)[1:]
	wantAll(t, x, lits(65), slices.Concat(many(1, won), many(64, lost), many(1, held)))
	wantAll(t, x, nil, slices.Concat(many(1, lost), many(1, won), many(64, lost)))
	l, _, _ := modelDecode(certified(t, x, lits(65), 0, api.PlusPartial))
	if len(l) != 64+3 || len(l[66].Choices) != 4095 {
		t.Fatalf("P22.7: %s", told(l))
	}
	all := l[66].Choices
	l[66].Choices = append(slices.Clone(all[:4094]), api.Choice{Place: -1, Rule: 1})
	wantClaimRefused(t, "the last choice", x, lits(65), l, 66)
	l[66].Choices = all[:4094]
	wantClaimRefused(t, "a choice too few", x, lits(65), l, 66)
	l[66].Choices = append(slices.Clone(all), all[0])
	wantClaimRefused(t, "a choice too many", x, lits(65), l, 66)
	l[66].Choices = append(l[66].Choices, all[0])
	b := modelBytes(l)
	wantRefused(t, "more choices than may be", x, lits(65), b, api.ErrWire, placeOfChoices(l))
}

// placeOfChoices: where the last step tells how many it has.
func placeOfChoices(l []api.Step) int {
	all := parts(l)
	_, places := laid(all)
	return places[len(all)-2*len(l[len(l)-1].Choices)-1]
}

// TestMostBeaters: all rules of the one side beat the one of the other; lists of the most steps, each of which asks for them.
func TestMostBeaters(t *testing.T) {
	t.Parallel()
	x := plain(3, rule(api.Defeater, 1))
	enemies(&x, 0, 1)
	for range 4095 {
		x.Rules = append(x.Rules, rule(api.Defeasible, 0, 2))
		x.Beats = append(x.Beats, lits(0))
	}
	wantAll(t, x, lits(2), append(many(1, won), lost, held))
	wantAll(t, x, nil, many(3, lost))
	l := steps("-D 0 none; -D 1 none; -D 2 none; -d 2 none; -d 0 beaten 0")
	wantClaimRefused(t, "no choices", x, nil, l, 4)
	l[4].Choices = slices.Repeat([]api.Choice{{Place: 0, Rule: -1}}, 4095)
	wantTaken(t, "a choice for each", x, nil, l)
	wantTaken(t, "many times", x, nil, append(l, slices.Repeat(l[4:], 300)...))
	l[4].Choices[4094].Place = 1
	wantClaimRefused(t, "the last choice", x, nil, l, 4)
	l[4].Choices = nil
	empty := slices.Concat(l[:4], slices.Repeat(l[4:], api.MaxSteps-4))
	wantClaimRefused(t, "no choices, many times", x, nil, empty, 4)
	// Where none beats, none is asked: as often as there may be steps.
	x.Beats = make([][]int, 4096)
	wantTaken(t, "none that beats, many times", x, nil, empty)
	wantTaken(t, "the most steps", x, nil, slices.Repeat(l[:1], api.MaxSteps))
}

// TestMostSteps: a step at fault is told wherever it is.
func TestMostSteps(t *testing.T) {
	t.Parallel()
	x := from("2; => 0; => 1; 0 # 1; 0 > 1")
	most := slices.Concat(slices.Repeat(steps("-D 0 none; -D 1 none"), api.MaxSteps/2-1), steps("-D 1 none; +d 0 rule 0 / -1 0"))
	if len(most) != 65536 {
		t.Fatalf("%d steps", len(most))
	}
	wantTaken(t, "the most", x, nil, most)
	for _, at := range lits(0, 1, 30000, 65534, 65535) {
		wrong := slices.Clone(most)
		wrong[at].Rule = 0
		wrong[at].Choices = nil
		wantClaimRefused(t, "one of the most", x, nil, wrong, at)
		wantRefused(t, "one of more than the most", x, nil, modelBytes(append(wrong, wrong[0])), api.ErrWire, 4)
	}
	wantRefused(t, "one too many", x, nil, modelBytes(append(most, most[0])), api.ErrWire, 4)
}

// TestPastTheMost: one literal, one rule, one of a body more is refused.
func TestPastTheMost(t *testing.T) {
	t.Parallel()
	one := modelBytes(steps("-D 0 none"))
	wantRefused(t, "literals", plain(4097), nil, one, api.ErrLits, 0)
	wantWholeRefused(t, plain(4097), nil, api.ErrLits)
	wantCertifyRefused(t, plain(4096), nil, 4096, api.MinusDelta, api.ErrLit)
	certified(t, plain(4096), nil, 4095, api.MinusDelta)
	wantTaken(t, "the last literal", plain(4096), nil, steps("-D 4095 none; -d 4095 none"))
	wantClaimRefused(t, "one less", plain(4095), nil, steps("-D 4095 none; -d 4095 none"), 0)
	wantAll(t, plain(4096), nil, many(4096, lost))
	wantWholeRefused(t, plain(4096), upTo(4097), api.ErrFact)
	wantWhole(t, plain(4096), upTo(4096), many(4096, held))
	wantRefused(t, "rules", plain(1, slices.Repeat([]api.Rule{rule(api.Defeasible, 0)}, 4097)...), nil, one, api.ErrGround, 0)
	x := plain(1, slices.Repeat([]api.Rule{rule(api.Defeasible, 0)}, 4096)...)
	wantAll(t, x, nil, many(1, won))
	wantTaken(t, "the last rule", x, nil, steps("+d 0 rule 4095"))
	wantRefused(t, "a body", plain(17, rule(api.Defeasible, 0, upTo(17)...)), nil, one, api.ErrRule, 0)
	wantAll(t, plain(17, rule(api.Defeasible, 16, upTo(16)...)), upTo(16), append(many(16, held), won))
	wantTaken(t, "the last place", plain(17, rule(api.Strict, 16, upTo(16)...)), nil, steps("-D 15 none; -D 16 none / 15 -1"))
}
