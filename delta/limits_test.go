package delta_test

import (
	"slices"
	"testing"

	"lexprior/api"
	"lexprior/delta"
	"lexprior/fast"
	"lexprior/theory"
)

// TestLongChains: a fact at the one end, and at the other one; in the middle half of the chain is touched.
func TestLongChains(t *testing.T) {
	t.Parallel()
	for _, kind := range []api.Arrow{api.Strict, api.Defeasible} {
		up := plain(4096)
		for r := range 4095 {
			up.Rules = append(up.Rules, rule(kind, r+1, r))
		}
		up.Beats = make([][]int, 4095)
		follows := held
		if kind == api.Defeasible {
			follows = won
		}
		e := newEngine(t, up)
		wantState(t, e, nil, many(4096, lost))
		wantDone(t, e, add(0), lits(0), append(marks(held), many(4095, follows)...))
		wantTouched(t, e, upTo(4096)...)
		wantDone(t, e, add(4095), lits(0, 4095), slices.Concat(marks(held), many(4094, follows), marks(held)))
		wantTouched(t, e, 4095)
		wantDone(t, e, set(2000), lits(2000), slices.Concat(many(2000, lost), marks(held), many(2095, follows)))
		wantDone(t, e, drop(2000), nil, many(4096, lost))
		wantTouched(t, e, upTo(4096)[2000:]...)
		wantRefused(t, e, add(4096), api.ErrArg)
	}
}

func TestLongRing(t *testing.T) {
	t.Parallel()
	x := plain(4096)
	for r := range 4096 {
		x.Rules = append(x.Rules, rule(api.Defeasible, r, (r+1)%4096))
	}
	x.Beats = make([][]int, 4096)
	e := newEngine(t, x)
	wantState(t, e, nil, many(4096, open))
	wantDone(t, e, add(7), lits(7), slices.Concat(many(7, won), marks(held), many(4088, won)))
	wantDone(t, e, drop(7), nil, many(4096, open))
	wantTouched(t, e, upTo(4096)...)
}

// TestMostOfAll: literals, rules and pairs: groups of sixteen foes, each of which leads on to the next group, where the first beats all others.
func TestMostOfAll(t *testing.T) {
	t.Parallel()
	x := plain(4096)
	for q := range 4096 {
		group := q / 16 * 16
		var body []int
		if group > 0 {
			body = lits(group - 16)
		}
		x.Rules = append(x.Rules, rule(api.Defeasible, q, body...))
		x.Beats = append(x.Beats, nil)
		for other := group; other < group+16; other++ {
			if other != q {
				x.Foes[q] = append(x.Foes[q], other)
			}
			if other > q {
				x.Beats[q] = append(x.Beats[q], other)
			}
		}
	}
	group := append(marks(won), many(15, lost)...)
	e := newEngine(t, x)
	wantState(t, e, nil, slices.Repeat(group, 256))
	against := slices.Concat(marks(lost, held), many(14, lost))
	wantDone(t, e, add(1), lits(1), append(against, many(4080, lost)...))
	wantTouched(t, e, upTo(4096)...)
	wantDone(t, e, set(1601), lits(1601), slices.Concat(slices.Repeat(group, 100), against, many(2480, lost)))
	wantDone(t, e, drop(1601), nil, slices.Repeat(group, 256))
	wantTouched(t, e, upTo(4096)[1600:]...)
}

// TestMostPairs: and the longest bodies; the last of the one side beats all of the other.
func TestMostPairs(t *testing.T) {
	t.Parallel()
	x := plain(18)
	enemies(&x, 16, 17)
	x.Rules = append(slices.Repeat([]api.Rule{rule(api.Defeasible, 16, upTo(16)...)}, 181), slices.Repeat([]api.Rule{rule(api.Defeater, 17, upTo(16)...)}, 181)...)
	x.Beats = make([][]int, len(x.Rules))
	x.Beats[180] = upTo(362)[181:]
	e := newEngine(t, x)
	wantDone(t, e, set(upTo(16)...), upTo(16), append(many(16, held), marks(won, lost)...))
	wantDone(t, e, drop(0), upTo(16)[1:], slices.Concat(marks(lost), many(15, held), marks(lost, lost)))
	wantTouched(t, e, 0, 16, 17)
	wantDone(t, e, add(17), append(upTo(16)[1:], 17), slices.Concat(marks(lost), many(15, held), marks(lost, held)))
	wantTouched(t, e, 16, 17)
}

func TestMostFoes(t *testing.T) {
	t.Parallel()
	x := plain(4096)
	for first := 0; first+64 < 4096; first += 65 {
		enemies(&x, upTo(first + 65)[first:]...)
	}
	x.Rules, x.Beats = []api.Rule{rule(api.Defeasible, 0)}, make([][]int, 1)
	e := newEngine(t, x)
	wantDone(t, e, add(64), lits(64), slices.Concat(many(64, lost), marks(held), many(4031, lost)))
	wantTouched(t, e, upTo(65)...)
	wantDone(t, e, set(65), lits(65), slices.Concat(marks(won), many(64, lost), marks(held), many(4030, lost)))
	wantTouched(t, e, upTo(130)...)
	wantDone(t, e, set(upTo(4096)...), upTo(4096), many(4096, held))
	wantDone(t, e, set(), nil, append(marks(won), many(4095, lost)...))
}

// TestMostOutside: as many literals and rules as may be, all in the cone but for six literals, one of each of the marks, and the five rules by which they have them.
func TestMostOutside(t *testing.T) {
	t.Parallel()
	x := from("6; => 1; 3 => 3; 4 -> 4; 5 -> 5; => 5")
	x.Lits, x.Foes = 4096, make([][]int, 4096)
	for lit := 7; lit < 4096; lit++ {
		x.Rules = append(x.Rules, rule(api.Defeasible, lit, lit-1))
	}
	x.Rules = append(x.Rules, rule(api.Strict, 4095, lits(0, 1, 2, 3, 4, 5, 6)...), rule(api.Strict, 7, lits(0, 1, 5, 6)...))
	x.Beats = make([][]int, len(x.Rules))
	if len(x.Rules) != 4096 {
		t.Fatalf("there are %d rules", len(x.Rules))
	}
	outside := marks(held, won, lost, open, none, loose)
	e := newEngine(t, x)
	wantDone(t, e, add(0), lits(0), append(slices.Clone(outside), many(4090, lost)...))
	part, _, cone := delta.Part(e, lits(6))
	if errno, at := theory.Check(part); errno != api.OK || part.Lits != 4096 || len(part.Rules) != 4096 || len(cone) != 4090 {
		t.Fatalf("the part has %d literals and %d rules: %d, %d", part.Lits, len(part.Rules), errno, at)
	}
	wantDone(t, e, add(6), lits(0, 6), slices.Concat(outside, marks(held), many(4089, won)))
	wantTouched(t, e, upTo(4096)[6:]...)
	wantDone(t, e, drop(6), lits(0), append(slices.Clone(outside), many(4090, lost)...))
}

// TestFewestRulesOutside: of literals that have +d alone, of which just one has two rules; the other rules are all in the cone.
func TestFewestRulesOutside(t *testing.T) {
	t.Parallel()
	for _, text := range []string{"3; 0 -> 0; => 0; 0 -> 1", "3; 0 -> 1; 1 -> 0; => 0", "3; 1 -> 1; 0 -> 1; => 0"} {
		x := from(text)
		for len(x.Rules) < 4096 {
			x.Rules = append(x.Rules, rule(api.Defeasible, 2, 1, 2))
		}
		x.Rules[4095].Kind = api.Strict
		x.Beats = make([][]int, 4096)
		p := newPair(t, x)
		if p.model.marks[1] != marks(loose)[0] {
			t.Fatalf("%s: %d", text, p.model.marks)
		}
		wantPart(t, p, lits(2))
		p.step(t, add(2))
		p.step(t, drop(2))
		wantTouched(t, p.engine, 2)
	}
}

// TestLargestByChance: as many literals and rules as may be, held against the fast engine.
func TestLargestByChance(t *testing.T) {
	t.Parallel()
	m := newMaker(210)
	for _, kind := range []func(lits, rules int) api.Theory{m.row, m.stairs, m.theory} {
		x := kind(4096, 4096)
		e := newEngine(t, x)
		for n := range 40 {
			c := pick(m, add, drop)(m.chance.Intn(x.Lits))
			if n%10 == 0 {
				c = set(m.some(300, x.Lits)...)
			}
			was := e.Marks()
			got := c.do(e)
			want, errno := fast.Run(x, e.Facts())
			if errno != api.OK || !slices.Equal(e.Marks(), want) || !slices.Equal(got.changes, differ(was, want)) {
				t.Fatalf("P19.3: %s: %s, %d", told(c), told(got), errno)
			}
		}
	}
}

// TestMostCalls: each literal comes and goes, one by one.
func TestMostCalls(t *testing.T) {
	t.Parallel()
	x := plain(4096)
	for r := range 2048 {
		x.Rules = append(x.Rules, rule(api.Defeasible, 2*r+1, 2*r))
	}
	x.Beats = make([][]int, 2048)
	e := newEngine(t, x)
	for lit := 4094; lit >= 0; lit -= 2 {
		want := []api.Change{{Lit: lit, Was: 10, Now: 5}, {Lit: lit + 1, Was: 10, Now: 6}}
		if got, errno := e.Add(lit); errno != api.OK || !slices.Equal(got, want) {
			t.Fatalf("P19.1: Add(%d): %v, %d, want %v", lit, got, errno, want)
		}
	}
	wantState(t, e, slices.DeleteFunc(upTo(4096), func(lit int) bool { return lit%2 == 1 }), slices.Repeat(marks(held, won), 2048))
	for lit := 0; lit < 4096; lit += 2 {
		if got, errno := e.Drop(lit); errno != api.OK || len(got) != 2 {
			t.Fatalf("P19.1: Drop(%d): %v, %d", lit, got, errno)
		}
	}
	wantState(t, e, nil, many(4096, lost))
}
