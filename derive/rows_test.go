package derive_test

import (
	"math"
	"slices"
	"strings"
	"testing"

	"lexprior/api"
	"lexprior/derive"
)

// town has what the rows ask for: 4 has the foes 5 and 6, against which stand rules of each kind; 5 has a foe besides, 7; and 8 has two strict rules.
func town() api.Theory {
	return from(`9; 0 -> 4; 0 1 => 4; 2 => 4; 1 ~> 4; 2 3 -> 5; 3 => 5; 1 ~> 5; 2 => 6; 3 => 6; 0 => 7; 0 -> 8; 0 1 -> 8; => 8;
		4 # 5; 4 # 6; 5 # 7; 0 > 4; 0 > 6; 1 > 6; 2 > 5; 2 > 7; 3 > 5; 9 > 5`)
}

// needing: what a text says must be ahead: tags and literals.
func needing(text string) []api.Pair {
	var list []api.Pair
	for _, part := range strings.Split(text, ",") {
		if part = strings.TrimSpace(part); part != "" {
			list = append(list, pairs(steps(part+" none"))...)
		}
	}
	return list
}

// rowTest is a step of the town, what must be ahead of it, and steps that are wrong in one thing, by what that is.
type rowTest struct {
	step, needs string
	wrong       map[string]string
}

func strictRows() []rowTest {
	return []rowTest{
		{"+D 3 fact", "", map[string]string{
			"a rule": "+D 3 fact 0", "a rule below -1": "+D 3 fact -2", "a rule past the last": "+D 3 fact 13", "its own number": "+D 3 fact 3",
			"a choice": "+D 3 fact / 0 -1", "a choice of nothing": "+D 3 fact / -1 -1",
		}},
		{"+D 8 rule 11", "+D 0, +D 1", map[string]string{
			"no rule": "+D 8 rule", "a rule below -1": "+D 8 rule -2", "a rule past the last": "+D 8 rule 13",
			"another literal's rule": "+D 8 rule 0", "another literal": "+D 4 rule 11", "a defeasible rule": "+D 8 rule 12",
			"a choice": "+D 8 rule 11 / 0 -1", "choices for its rules": "+D 8 rule 11 / 0 -1 / 1 -1",
		}},
		{"+D 4 rule 0", "+D 0", map[string]string{
			"a defeasible rule": "+D 4 rule 2", "a defeater": "+D 4 rule 3", "a foe's rule": "+D 4 rule 4", "choices for all against it": "+D 4 rule 0 / 1 -1 / 0 -1 / 0 -1 / 0 -1 / 0 -1",
		}},
		{"-D 8 none / 0 -1 / 1 -1", "-D 0, -D 1", map[string]string{
			"no choice": "-D 8 none", "too few choices": "-D 8 none / 0 -1", "too many choices": "-D 8 none / 0 -1 / 1 -1 / 0 -1",
			"choices in another order": "-D 8 none / 1 -1 / 0 -1", "another literal": "-D 4 none / 0 -1 / 1 -1",
			"a place of -1": "-D 8 none / -1 -1 / 1 -1", "a place below -1": "-D 8 none / 0 -1 / -2 -1",
			"a place at the end": "-D 8 none / 1 -1 / 1 -1", "a place at the longer end": "-D 8 none / 0 -1 / 2 -1", "a place past the end": "-D 8 none / 2 -1 / 1 -1",
			"a place with a rule": "-D 8 none / 0 10 / 1 -1", "a place with what is no rule": "-D 8 none / 0 -1 / 1 -2",
			"a rule": "-D 8 none 10 / 0 -1 / 1 -1", "a rule below -1": "-D 8 none -2 / 0 -1 / 1 -1", "a rule past the last": "-D 8 none 13 / 0 -1 / 1 -1",
		}},
		{"-D 8 none / 0 -1 / 0 -1", "-D 0", nil},
		{"-D 5 none / 1 -1", "-D 3", map[string]string{"choices for all its rules": "-D 5 none / 1 -1 / 0 -1 / 0 -1"}},
		{"-D 6 none", "", map[string]string{"choices for its rules": "-D 6 none / 0 -1 / 0 -1", "a choice of nothing": "-D 6 none / -1 -1", "a rule": "-D 6 none 7"}},
		{"-D 2 none", "", map[string]string{"a choice": "-D 2 none / 0 -1", "a rule": "-D 2 none 0", "a rule below -1": "-D 2 none -2"}},
	}
}

func plusRows() []rowTest {
	return []rowTest{
		{"+d 4 strict", "+D 4", map[string]string{
			"a rule": "+d 4 strict 0", "a foe": "+d 4 strict 5", "a rule below -1": "+d 4 strict -2", "a rule past the last": "+d 4 strict 13",
			"a choice": "+d 4 strict / 0 -1", "choices for all against it": "+d 4 strict / 1 -1 / 0 -1 / 0 -1 / 0 -1 / 0 -1",
		}},
		{"+d 0 strict", "+D 0", nil},
		{"+d 4 rule 1 / 1 -1 / -1 2 / -1 1 / -1 2 / 0 -1", "+d 0, +d 1, +d 2, -d 3, -D 5, -D 6", map[string]string{
			"no rule": "+d 4 rule / 1 -1 / -1 2 / -1 1 / -1 2 / 0 -1", "a rule below -1": "+d 4 rule -2 / 1 -1 / -1 2 / -1 1 / -1 2 / 0 -1", "a rule past the last": "+d 4 rule 13 / 1 -1 / -1 2 / -1 1 / -1 2 / 0 -1",
			"a defeater": "+d 4 rule 3 / 1 -1 / -1 2 / -1 1 / -1 2 / 0 -1", "a foe's rule": "+d 4 rule 5 / 1 -1 / -1 2 / -1 1 / -1 2 / 0 -1", "another literal's rule": "+d 4 rule 12 / 1 -1 / -1 2 / -1 1 / -1 2 / 0 -1",
			"no choices": "+d 4 rule 1", "too few choices": "+d 4 rule 1 / 1 -1 / -1 2 / -1 1 / -1 2", "too many choices": "+d 4 rule 1 / 1 -1 / -1 2 / -1 1 / -1 2 / 0 -1 / 0 -1",
			"none for a defeater": "+d 4 rule 1 / 1 -1 / -1 2 / -1 2 / 0 -1", "choices in another order": "+d 4 rule 1 / -1 2 / 1 -1 / -1 1 / -1 2 / 0 -1",
			"those for one foe last": "+d 4 rule 1 / -1 2 / 0 -1 / 1 -1 / -1 2 / -1 1",
			"a place below -1":       "+d 4 rule 1 / -2 -1 / -1 2 / -1 1 / -1 2 / 0 -1", "a place at the end": "+d 4 rule 1 / 2 -1 / -1 2 / -1 1 / -1 2 / 0 -1", "a place past the end": "+d 4 rule 1 / 1 -1 / -1 2 / -1 1 / -1 2 / 2 -1",
			"a place with a rule": "+d 4 rule 1 / 1 0 / -1 2 / -1 1 / -1 2 / 0 -1", "a place with a rule that beats": "+d 4 rule 1 / 1 -1 / 0 2 / -1 1 / -1 2 / 0 -1", "a place with what is no rule": "+d 4 rule 1 / 1 -1 / -1 2 / -1 1 / -1 2 / 0 -2",
			"neither place nor rule": "+d 4 rule 1 / 1 -1 / -1 2 / -1 1 / -1 2 / -1 -1", "a place below -1 with a rule": "+d 4 rule 1 / 1 -1 / -2 2 / -1 1 / -1 2 / 0 -1",
			"a beating defeater": "+d 4 rule 1 / 1 -1 / -1 3 / -1 1 / -1 2 / 0 -1", "another literal's beats": "+d 4 rule 1 / 1 -1 / -1 9 / -1 1 / -1 2 / 0 -1",
			"one that does not beat it": "+d 4 rule 1 / 1 -1 / -1 1 / -1 1 / -1 2 / 0 -1", "one that beats another": "+d 4 rule 1 / 1 -1 / -1 2 / -1 1 / -1 2 / -1 2", "the rule itself": "+d 4 rule 1 / 1 -1 / -1 5 / -1 1 / -1 2 / 0 -1",
			"a beating rule below -1": "+d 4 rule 1 / 1 -1 / -1 -2 / -1 1 / -1 2 / 0 -1", "a beating rule past the last": "+d 4 rule 1 / 1 -1 / -1 13 / -1 1 / -1 2 / 0 -1",
			"another literal": "+d 7 rule 1 / 1 -1 / -1 2 / -1 1 / -1 2 / 0 -1",
		}},
		{"+d 4 rule 0 / -1 0 / 0 -1 / -1 0 / 0 -1 / 0 -1", "+d 0, -d 2, -d 3, -D 5, -D 6", nil},
		{"+d 4 rule 2 / 0 -1 / -1 2 / 0 -1 / -1 2 / 0 -1", "-d 1, +d 2, -d 2, -d 3, -D 5, -D 6", nil},
		{"+d 8 rule 12", "", map[string]string{"a choice": "+d 8 rule 12 / 0 -1", "another literal's rule": "+d 8 rule 9", "another literal": "+d 0 rule 12"}},
		{"+d 8 rule 11", "+d 0, +d 1", nil},
		{"+d 7 rule 9 / 0 -1 / -1 9 / 0 -1", "+d 0, -d 1, -d 2, -D 5", map[string]string{"a rule for another foe beats": "+d 7 rule 9 / 0 -1 / -1 2 / 0 -1"}},
		{"+d 5 rule 4 / 0 -1 / 0 -1 / 0 -1 / 0 -1 / 0 -1", "-d 0, -d 1, +d 2, -d 2, +d 3, -D 4, -D 7", nil},
	}
}

func minusRows() []rowTest {
	return []rowTest{
		{"-d 4 none / 0 -1 / 1 -1 / 0 -1", "-d 0, -d 1, -d 2, -D 4", map[string]string{
			"no choice": "-d 4 none", "too few choices": "-d 4 none / 0 -1 / 1 -1", "one for the defeater, too": "-d 4 none / 0 -1 / 1 -1 / 0 -1 / 0 -1", "for the strict rule alone": "-d 4 none / 0 -1",
			"choices in another order": "-d 4 none / 1 -1 / 0 -1 / 0 -1", "another literal": "-d 5 none / 0 -1 / 1 -1 / 0 -1",
			"a place of -1": "-d 4 none / 0 -1 / -1 -1 / 0 -1", "a rule that beats": "-d 4 none / 0 -1 / 1 -1 / -1 4", "a place below -1": "-d 4 none / -2 -1 / 1 -1 / 0 -1",
			"a place at the end": "-d 4 none / 1 -1 / 1 -1 / 0 -1", "a place at the longer end": "-d 4 none / 0 -1 / 2 -1 / 0 -1", "a place past the end": "-d 4 none / 0 -1 / 1 -1 / 7 -1",
			"a place with a rule": "-d 4 none / 0 -1 / 1 0 / 0 -1", "a place with what is no rule": "-d 4 none / 0 -1 / 1 -1 / 0 -2",
			"a rule": "-d 4 none 0 / 0 -1 / 1 -1 / 0 -1", "a rule below -1": "-d 4 none -2 / 0 -1 / 1 -1 / 0 -1", "a foe": "-d 4 none 5 / 0 -1 / 1 -1 / 0 -1",
		}},
		{"-d 5 none / 1 -1 / 0 -1", "-d 3, -D 5", nil},
		{"-d 2 none", "-D 2", map[string]string{"a choice": "-d 2 none / 0 -1", "a rule": "-d 2 none 2"}},
		{"-d 4 strict 6", "-D 4, +D 6", map[string]string{
			"no foe": "-d 4 strict", "a foe below -1": "-d 4 strict -2", "a literal past the last": "-d 4 strict 9", "what is no foe": "-d 4 strict 0", "itself": "-d 4 strict 4", "a foe's foe": "-d 4 strict 7",
			"a choice": "-d 4 strict 6 / 0 -1", "choices for its rules": "-d 4 strict 6 / 0 -1 / 1 -1 / 0 -1", "another literal": "-d 8 strict 6",
		}},
		{"-d 7 strict 5", "+D 5, -D 7", nil},
		{"-d 4 beaten 5 / 0 -1", "-d 2, +d 3, -D 4", map[string]string{
			"no rule": "-d 4 beaten / 0 -1", "a rule below -1": "-d 4 beaten -2 / 0 -1", "a rule past the last": "-d 4 beaten 13 / 0 -1", "its own rule": "-d 4 beaten 2 / 0 -1", "no foe's rule": "-d 4 beaten 9 / 0 -1", "another literal": "-d 8 beaten 5 / 0 -1",
			"no choice": "-d 4 beaten 5", "one for the defeater, too": "-d 4 beaten 5 / 0 -1 / 0 -1", "choices for all that beat it": "-d 4 beaten 5 / 0 -1 / 0 -1 / 0 -1",
			"a place of -1": "-d 4 beaten 5 / -1 -1", "a rule that beats it": "-d 4 beaten 5 / -1 2", "a place below -1": "-d 4 beaten 5 / -2 -1", "a place at the end": "-d 4 beaten 5 / 1 -1", "a place past the end": "-d 4 beaten 5 / 2 -1",
			"a place with a rule": "-d 4 beaten 5 / 0 2", "a place with what is no rule": "-d 4 beaten 5 / 0 -2",
		}},
		{"-d 4 beaten 6 / 0 -1 / 1 -1", "-d 0, +d 1, -d 1, -D 4", map[string]string{
			"choices in another order": "-d 4 beaten 6 / 1 -1 / 0 -1", "too few choices": "-d 4 beaten 6 / 0 -1", "choices for all its rules": "-d 4 beaten 6 / 0 -1 / 1 -1 / 0 -1",
		}},
		{"-d 4 beaten 8", "+d 3, -D 4", map[string]string{"a choice": "-d 4 beaten 8 / 0 -1", "choices for its rules": "-d 4 beaten 8 / 0 -1 / 1 -1 / 0 -1"}},
		{"-d 7 beaten 5 / 0 -1", "-d 0, +d 3, -D 7", nil},
		{"-d 5 beaten 3", "+d 1, -D 5", nil},
		{"-d 5 beaten 2", "+d 2, -D 5", nil},
	}
}

func allRows() []rowTest {
	return slices.Concat(strictRows(), plusRows(), minusRows())
}

// besides: what is no step of the town, but could be taken for one.
func besides() []api.Step {
	var l []api.Step
	for _, lit := range lits(-1, 9, 10, 4096, math.MaxInt, math.MinInt) {
		for _, tag := range tags {
			l = append(l, api.Step{Lit: lit, Tag: tag})
		}
	}
	return append(l, saying(api.Pair{}, api.Pair{A: 0, B: 5}, api.Pair{A: 4, B: -1}, api.Pair{A: 4, B: math.MaxInt})...)
}

// factsFor: those by which a step follows. (But for two of the rows facts are not asked.)
func factsFor(s api.Step) [][]int {
	switch {
	case s.How == api.HowFact:
		return [][]int{{s.Lit}, upTo(9)}
	case s.Tag == api.MinusDelta:
		return [][]int{nil, slices.DeleteFunc(upTo(9), func(lit int) bool { return lit == s.Lit })}
	}
	return [][]int{nil, {}, {s.Lit}, upTo(9)}
}

// TestRows: a step follows just if all that it needs is ahead.
func TestRows(t *testing.T) {
	x := town()
	for _, row := range allRows() {
		s, needs := step(row.step), needing(row.needs)
		wantNeeds(t, x, s, needs...)
		for _, facts := range factsFor(s) {
			wantFollows(t, x, facts, saying(needs...), s, true)
			wantFollows(t, x, facts, slices.Concat(besides(), everything(9)), s, true)
			for n, need := range needs {
				others := slices.Delete(slices.Clone(needs), n, n+1)
				wantFollows(t, x, facts, saying(others...), s, false)
				all := slices.DeleteFunc(everything(9), func(a api.Step) bool { return slices.Equal(pairs([]api.Step{a}), []api.Pair{need}) })
				wantFollows(t, x, facts, slices.Concat(besides(), all), s, false)
			}
			wantFollows(t, x, facts, nil, s, len(needs) == 0)
		}
	}
}

// TestWrongInOneThing: whatever is ahead.
func TestWrongInOneThing(t *testing.T) {
	x := town()
	refused := func(what string, s api.Step) {
		t.Helper()
		for _, facts := range [][]int{nil, {s.Lit & 7}, upTo(9)} {
			if follows, errno := derive.Follows(x, facts, slices.Concat(besides(), everything(9)), s); errno != api.OK || follows {
				t.Errorf("P20.1: %s: Follows(%+v): %t, %d", what, s, follows, errno)
			}
		}
		if list, errno := derive.Needs(x, s); errno != api.ErrStep || len(list) > 0 {
			t.Errorf("P20.3: %s: Needs(%+v): %v, %d", what, s, list, errno)
		}
	}
	for _, row := range allRows() {
		for what, text := range row.wrong {
			refused(what, step(text))
		}
		for _, lit := range lits(-1, 9, 10, 4096, math.MinInt, math.MaxInt) {
			s := step(row.step)
			s.Lit = lit
			refused("no literal", s)
		}
		sameLowHalf := 1<<32 + max(step(row.step).Rule, 0)
		for _, n := range lits(math.MinInt, math.MaxInt, -1<<32-1, 1<<32-1, sameLowHalf) {
			s := step(row.step)
			s.Rule = n
			refused("no rule", s)
			for c := range s.Choices {
				s = step(row.step)
				s.Choices[c].Place = n
				refused("no place", s)
				s = step(row.step)
				s.Choices[c].Rule = n
				refused("no rule in a choice", s)
			}
		}
	}
}

// isRow: is there such a pair?
func isRow(tag api.Tag, how api.How) bool {
	return slices.ContainsFunc(allRows(), func(row rowTest) bool {
		s := step(row.step)
		return s.Tag == tag && s.How == how
	})
}

// TestNoRow: a Tag or a How that is none, or a pair that is no row, with all that a row has beside it.
func TestNoRow(t *testing.T) {
	x := town()
	many := 0
	for _, tag := range []api.Tag{math.MinInt, -1, 0, 1, 2, 3, 4, 5, 6, 257, 1<<32 + 1, math.MaxInt} {
		for _, how := range []api.How{math.MinInt, -1, 0, 1, 2, 3, 4, 5, 6, 257, 1<<32 + 1, math.MaxInt} {
			if isRow(tag, how) {
				many++
				continue
			}
			for _, row := range allRows() {
				s := step(row.step)
				s.Tag, s.How = tag, how
				for _, facts := range [][]int{nil, upTo(9)} {
					wantFollows(t, x, facts, everything(9), s, false)
				}
				wantNeedsRefused(t, x, s, api.ErrStep)
			}
		}
	}
	if many != 8 {
		t.Errorf("%d rows were seen", many)
	}
}

// TestFacts: of +D by a fact and of -D alone it is asked what is a fact; Needs does not ask.
func TestFacts(t *testing.T) {
	x := town()
	for lit := range 9 {
		s := api.Step{Tag: api.PlusDelta, Lit: lit, How: api.HowFact, Rule: -1}
		wantNeeds(t, x, s)
		for fact := range 9 {
			wantFollows(t, x, lits(fact), everything(9), s, fact == lit)
			wantFollows(t, x, slices.DeleteFunc(upTo(9), func(n int) bool { return n == fact }), nil, s, fact != lit)
		}
		wantFollows(t, x, nil, everything(9), s, false)
	}
	for _, row := range strictRows() {
		s := step(row.step)
		if s.Tag != api.MinusDelta {
			continue
		}
		for fact := range 9 {
			wantFollows(t, x, lits(fact), everything(9), s, fact != s.Lit)
		}
		wantFollows(t, x, upTo(9), everything(9), s, false)
	}
}

// TestAhead: in any order, twice, by whatever, and beside what is not of the theory.
func TestAhead(t *testing.T) {
	x := town()
	s, needs := step("+d 4 rule 1 / 1 -1 / -1 2 / -1 1 / -1 2 / 0 -1"), needing("+d 0, +d 1, +d 2, -d 3, -D 5, -D 6")
	m := newMaker(201)
	for range 200 {
		ahead := saying(append(slices.Clone(needs), needs[m.chance.Intn(len(needs))])...)
		ahead = append(ahead, besides()...)
		m.chance.Shuffle(len(ahead), func(a, b int) { ahead[a], ahead[b] = ahead[b], ahead[a] })
		for n := range ahead {
			ahead[n].How, ahead[n].Rule = api.How(m.odd(6)), m.odd(13)
			ahead[n].Choices = make([]api.Choice, m.chance.Intn(3))
		}
		wantFollows(t, x, nil, ahead, s, true)
		lacking := needs[m.chance.Intn(len(needs))]
		ahead = slices.DeleteFunc(ahead, func(a api.Step) bool { return a.Lit == lacking.A && int(a.Tag) == lacking.B })
		wantFollows(t, x, nil, ahead, s, false)
	}
	// The step itself is no help, nor is what others of the literal's tags say.
	wantFollows(t, x, nil, slices.Concat(saying(needs[:5]...), []api.Step{s, s}), s, false)
	wantFollows(t, x, nil, slices.Concat(saying(needs[1:]...), saying(needing("-d 0, +D 0, -D 0")...)), s, false)
	// More steps than a derivation may have.
	wantFollows(t, x, nil, slices.Concat(slices.Repeat(besides(), 4000), saying(needs...)), s, true)
}

// TestSameLiteralInItsBody: what a rule needs of its own head must be ahead, as of any.
func TestSameLiteralInItsBody(t *testing.T) {
	x := from("2; 0 -> 0; 0 => 0; 0 # 1; 0 1 => 1")
	wantFollows(t, x, nil, nil, step("+D 0 rule 0"), false)
	wantFollows(t, x, nil, steps("+D 0 fact"), step("+D 0 rule 0"), true)
	wantFollows(t, x, nil, nil, step("-D 0 none / 0 -1"), false)
	wantFollows(t, x, nil, steps("-D 0 none"), step("-D 0 none / 0 -1"), true)
	wantNeeds(t, x, step("+d 0 rule 1 / 0 -1"), needing("+d 0, -d 0, -D 1")...)
	wantNeeds(t, x, step("+d 1 rule 2 / 0 -1 / 0 -1"), needing("-D 0, +d 0, -d 0, +d 1")...)
	wantNeeds(t, x, step("-d 0 none / 0 -1 / 0 -1"), needing("-D 0, -d 0")...)
}
