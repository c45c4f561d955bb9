package checker_test

import (
	"slices"
	"strings"
	"testing"

	"lexprior/api"
	"lexprior/derive"
)

// town has what the rows ask for: 4 has the foes 5 and 6, against which stand rules of each kind; 5 has a foe besides, 7; and 8 has two strict rules.
func town() api.Theory {
	return from(`9; 0 -> 4; 0 1 => 4; 2 => 4; 1 ~> 4; 2 3 -> 5; 3 => 5; 1 ~> 5; 2 => 6; 3 => 6; 0 => 7; 0 -> 8; 0 1 -> 8; => 8;
		4 # 5; 4 # 6; 5 # 7; 0 > 4; 0 > 6; 1 > 6; 2 > 5; 2 > 7; 3 > 5; 9 > 5`)
}

// needing: what a text says must be ahead: tags and literals.
func needing(text string) []api.Pair {
	var list []api.Pair
	for _, part := range strings.Split(text, ",") {
		if part = strings.TrimSpace(part); part != "" {
			list = append(list, pairs(steps(part+" none"))...)
		}
	}
	return list
}

// rowTest is a step of the town, what must be ahead of it, and steps that are wrong in one thing, by what that is.
type rowTest struct {
	step, needs string
	wrong       map[string]string
}

func strictRows() []rowTest {
	return []rowTest{
		{"+D 3 fact", "", map[string]string{
			"a rule": "+D 3 fact 0", "a rule below -1": "+D 3 fact -2", "a rule past the last": "+D 3 fact 13", "its own number": "+D 3 fact 3",
			"a choice": "+D 3 fact / 0 -1", "a choice of nothing": "+D 3 fact / -1 -1",
		}},
		{"+D 8 rule 11", "+D 0, +D 1", map[string]string{
			"no rule": "+D 8 rule", "a rule below -1": "+D 8 rule -2", "a rule past the last": "+D 8 rule 13",
			"another literal's rule": "+D 8 rule 0", "another literal": "+D 4 rule 11", "a defeasible rule": "+D 8 rule 12",
			"a choice": "+D 8 rule 11 / 0 -1", "choices for its rules": "+D 8 rule 11 / 0 -1 / 1 -1",
		}},
		{"+D 4 rule 0", "+D 0", map[string]string{
			"a defeasible rule": "+D 4 rule 2", "a defeater": "+D 4 rule 3", "a foe's rule": "+D 4 rule 4", "choices for all against it": "+D 4 rule 0 / 1 -1 / 0 -1 / 0 -1 / 0 -1 / 0 -1",
		}},
		{"-D 8 none / 0 -1 / 1 -1", "-D 0, -D 1", map[string]string{
			"no choice": "-D 8 none", "too few choices": "-D 8 none / 0 -1", "too many choices": "-D 8 none / 0 -1 / 1 -1 / 0 -1",
			"choices in another order": "-D 8 none / 1 -1 / 0 -1", "another literal": "-D 4 none / 0 -1 / 1 -1",
			"a place of -1": "-D 8 none / -1 -1 / 1 -1", "a place below -1": "-D 8 none / 0 -1 / -2 -1",
			"a place at the end": "-D 8 none / 1 -1 / 1 -1", "a place at the longer end": "-D 8 none / 0 -1 / 2 -1", "a place past the end": "-D 8 none / 2 -1 / 1 -1",
			"a place with a rule": "-D 8 none / 0 10 / 1 -1", "a place with what is no rule": "-D 8 none / 0 -1 / 1 -2",
			"a rule": "-D 8 none 10 / 0 -1 / 1 -1", "a rule below -1": "-D 8 none -2 / 0 -1 / 1 -1", "a rule past the last": "-D 8 none 13 / 0 -1 / 1 -1",
		}},
		{"-D 8 none / 0 -1 / 0 -1", "-D 0", nil},
		{"-D 5 none / 1 -1", "-D 3", map[string]string{"choices for all its rules": "-D 5 none / 1 -1 / 0 -1 / 0 -1"}},
		{"-D 6 none", "", map[string]string{"choices for its rules": "-D 6 none / 0 -1 / 0 -1", "a choice of nothing": "-D 6 none / -1 -1", "a rule": "-D 6 none 7"}},
		{"-D 2 none", "", map[string]string{"a choice": "-D 2 none / 0 -1", "a rule": "-D 2 none 0", "a rule below -1": "-D 2 none -2"}},
	}
}

func plusRows() []rowTest {
	return []rowTest{
		{"+d 4 strict", "+D 4", map[string]string{
			"a rule": "+d 4 strict 0", "a foe": "+d 4 strict 5", "a rule below -1": "+d 4 strict -2", "a rule past the last": "+d 4 strict 13",
			"a choice": "+d 4 strict / 0 -1", "choices for all against it": "+d 4 strict / 1 -1 / 0 -1 / 0 -1 / 0 -1 / 0 -1",
		}},
		{"+d 0 strict", "+D 0", nil},
		{"+d 4 rule 1 / 1 -1 / -1 2 / -1 1 / -1 2 / 0 -1", "+d 0, +d 1, +d 2, -d 3, -D 5, -D 6", map[string]string{
			"no rule": "+d 4 rule / 1 -1 / -1 2 / -1 1 / -1 2 / 0 -1", "a rule below -1": "+d 4 rule -2 / 1 -1 / -1 2 / -1 1 / -1 2 / 0 -1", "a rule past the last": "+d 4 rule 13 / 1 -1 / -1 2 / -1 1 / -1 2 / 0 -1",
			"a defeater": "+d 4 rule 3 / 1 -1 / -1 2 / -1 1 / -1 2 / 0 -1", "a foe's rule": "+d 4 rule 5 / 1 -1 / -1 2 / -1 1 / -1 2 / 0 -1", "another literal's rule": "+d 4 rule 12 / 1 -1 / -1 2 / -1 1 / -1 2 / 0 -1",
			"no choices": "+d 4 rule 1", "too few choices": "+d 4 rule 1 / 1 -1 / -1 2 / -1 1 / -1 2", "too many choices": "+d 4 rule 1 / 1 -1 / -1 2 / -1 1 / -1 2 / 0 -1 / 0 -1",
			"none for a defeater": "+d 4 rule 1 / 1 -1 / -1 2 / -1 2 / 0 -1", "choices in another order": "+d 4 rule 1 / -1 2 / 1 -1 / -1 1 / -1 2 / 0 -1",
			"those for one foe last": "+d 4 rule 1 / -1 2 / 0 -1 / 1 -1 / -1 2 / -1 1",
			"a place below -1":       "+d 4 rule 1 / -2 -1 / -1 2 / -1 1 / -1 2 / 0 -1", "a place at the end": "+d 4 rule 1 / 2 -1 / -1 2 / -1 1 / -1 2 / 0 -1", "a place past the end": "+d 4 rule 1 / 1 -1 / -1 2 / -1 1 / -1 2 / 2 -1",
			"a place with a rule": "+d 4 rule 1 / 1 0 / -1 2 / -1 1 / -1 2 / 0 -1", "a place with a rule that beats": "+d 4 rule 1 / 1 -1 / 0 2 / -1 1 / -1 2 / 0 -1", "a place with what is no rule": "+d 4 rule 1 / 1 -1 / -1 2 / -1 1 / -1 2 / 0 -2",
			"neither place nor rule": "+d 4 rule 1 / 1 -1 / -1 2 / -1 1 / -1 2 / -1 -1", "a place below -1 with a rule": "+d 4 rule 1 / 1 -1 / -2 2 / -1 1 / -1 2 / 0 -1",
			"a beating defeater": "+d 4 rule 1 / 1 -1 / -1 3 / -1 1 / -1 2 / 0 -1", "another literal's beats": "+d 4 rule 1 / 1 -1 / -1 9 / -1 1 / -1 2 / 0 -1",
			"one that does not beat it": "+d 4 rule 1 / 1 -1 / -1 1 / -1 1 / -1 2 / 0 -1", "one that beats another": "+d 4 rule 1 / 1 -1 / -1 2 / -1 1 / -1 2 / -1 2", "the rule itself": "+d 4 rule 1 / 1 -1 / -1 5 / -1 1 / -1 2 / 0 -1",
			"a beating rule below -1": "+d 4 rule 1 / 1 -1 / -1 -2 / -1 1 / -1 2 / 0 -1", "a beating rule past the last": "+d 4 rule 1 / 1 -1 / -1 13 / -1 1 / -1 2 / 0 -1",
			"another literal": "+d 7 rule 1 / 1 -1 / -1 2 / -1 1 / -1 2 / 0 -1",
		}},
		{"+d 4 rule 0 / -1 0 / 0 -1 / -1 0 / 0 -1 / 0 -1", "+d 0, -d 2, -d 3, -D 5, -D 6", nil},
		{"+d 4 rule 2 / 1 -1 / -1 2 / 0 -1 / -1 2 / 0 -1", "-d 1, +d 2, -d 3, -D 5, -D 6", nil},
		{"+d 8 rule 12", "", map[string]string{"a choice": "+d 8 rule 12 / 0 -1", "another literal's rule": "+d 8 rule 9", "another literal": "+d 0 rule 12"}},
		{"+d 8 rule 11", "+d 0, +d 1", nil},
		{"+d 7 rule 9 / 0 -1 / -1 9 / 0 -1", "+d 0, -d 1, -d 2, -D 5", map[string]string{"a rule for another foe beats": "+d 7 rule 9 / 0 -1 / -1 2 / 0 -1"}},
		{"+d 5 rule 5 / 0 -1 / 0 -1 / 0 -1 / 0 -1 / 0 -1", "-d 0, -d 1, -d 2, +d 3, -D 4, -D 7", nil},
	}
}

func minusRows() []rowTest {
	return []rowTest{
		{"-d 4 none / 0 -1 / 1 -1 / 0 -1", "-d 0, -d 1, -d 2, -D 4", map[string]string{
			"no choice": "-d 4 none", "too few choices": "-d 4 none / 0 -1 / 1 -1", "one for the defeater, too": "-d 4 none / 0 -1 / 1 -1 / 0 -1 / 0 -1", "for the strict rule alone": "-d 4 none / 0 -1",
			"choices in another order": "-d 4 none / 1 -1 / 0 -1 / 0 -1", "another literal": "-d 5 none / 0 -1 / 1 -1 / 0 -1",
			"a place of -1": "-d 4 none / 0 -1 / -1 -1 / 0 -1", "a rule that beats": "-d 4 none / 0 -1 / 1 -1 / -1 4", "a place below -1": "-d 4 none / -2 -1 / 1 -1 / 0 -1",
			"a place at the end": "-d 4 none / 1 -1 / 1 -1 / 0 -1", "a place at the longer end": "-d 4 none / 0 -1 / 2 -1 / 0 -1", "a place past the end": "-d 4 none / 0 -1 / 1 -1 / 7 -1",
			"a place with a rule": "-d 4 none / 0 -1 / 1 0 / 0 -1", "a place with what is no rule": "-d 4 none / 0 -1 / 1 -1 / 0 -2",
			"a rule": "-d 4 none 0 / 0 -1 / 1 -1 / 0 -1", "a rule below -1": "-d 4 none -2 / 0 -1 / 1 -1 / 0 -1", "a foe": "-d 4 none 5 / 0 -1 / 1 -1 / 0 -1",
		}},
		{"-d 5 none / 1 -1 / 0 -1", "-d 3, -D 5", nil},
		{"-d 2 none", "-D 2", map[string]string{"a choice": "-d 2 none / 0 -1", "a rule": "-d 2 none 2"}},
		{"-d 4 strict 6", "-D 4, +D 6", map[string]string{
			"no foe": "-d 4 strict", "a foe below -1": "-d 4 strict -2", "a literal past the last": "-d 4 strict 9", "what is no foe": "-d 4 strict 0", "itself": "-d 4 strict 4", "a foe's foe": "-d 4 strict 7",
			"a choice": "-d 4 strict 6 / 0 -1", "choices for its rules": "-d 4 strict 6 / 0 -1 / 1 -1 / 0 -1", "another literal": "-d 8 strict 6",
		}},
		{"-d 7 strict 5", "+D 5, -D 7", nil},
		{"-d 4 beaten 5 / 0 -1", "-d 2, +d 3, -D 4", map[string]string{
			"no rule": "-d 4 beaten / 0 -1", "a rule below -1": "-d 4 beaten -2 / 0 -1", "a rule past the last": "-d 4 beaten 13 / 0 -1", "its own rule": "-d 4 beaten 2 / 0 -1", "no foe's rule": "-d 4 beaten 9 / 0 -1", "another literal": "-d 8 beaten 5 / 0 -1",
			"no choice": "-d 4 beaten 5", "one for the defeater, too": "-d 4 beaten 5 / 0 -1 / 0 -1", "choices for all that beat it": "-d 4 beaten 5 / 0 -1 / 0 -1 / 0 -1",
			"a place of -1": "-d 4 beaten 5 / -1 -1", "a rule that beats it": "-d 4 beaten 5 / -1 2", "a place below -1": "-d 4 beaten 5 / -2 -1", "a place at the end": "-d 4 beaten 5 / 1 -1", "a place past the end": "-d 4 beaten 5 / 2 -1",
			"a place with a rule": "-d 4 beaten 5 / 0 2", "a place with what is no rule": "-d 4 beaten 5 / 0 -2",
		}},
		{"-d 4 beaten 6 / 0 -1 / 0 -1", "-d 0, +d 1, -D 4", map[string]string{
			"choices in another order": "-d 4 beaten 6 / 1 -1 / 0 -1", "too few choices": "-d 4 beaten 6 / 0 -1", "choices for all its rules": "-d 4 beaten 6 / 0 -1 / 1 -1 / 0 -1",
		}},
		{"-d 4 beaten 8", "+d 3, -D 4", map[string]string{"a choice": "-d 4 beaten 8 / 0 -1", "choices for its rules": "-d 4 beaten 8 / 0 -1 / 1 -1 / 0 -1"}},
		{"-d 7 beaten 5 / 0 -1", "-d 0, +d 3, -D 7", nil},
		{"-d 5 beaten 3", "+d 1, -D 5", nil},
		{"-d 5 beaten 2", "+d 2, -D 5", nil},
	}
}

func allRows() []rowTest {
	return slices.Concat(strictRows(), plusRows(), minusRows())
}

// known is a derivation of all tags that the town has by some facts.
type known struct {
	facts []int
	steps []api.Step
}

// knowns: by all lists of facts.
func knowns(t *testing.T) []known {
	t.Helper()
	var all []known
	for set := range 1 << 9 {
		facts := slices.DeleteFunc(upTo(9), func(lit int) bool { return set>>lit&1 == 0 })
		l, errno := derive.All(town(), facts)
		if errno != api.OK {
			t.Fatalf("All: %d", errno)
		}
		all = append(all, known{facts, l})
	}
	return all
}

// says: are these among what steps say?
func says(l []api.Step, needs []api.Pair) bool {
	said := pairs(l)
	return !slices.ContainsFunc(needs, func(need api.Pair) bool { return !slices.Contains(said, need) })
}

// without: of a derivation what still follows where nothing says that.
func without(x api.Theory, facts []int, l []api.Step, lacking api.Pair) []api.Step {
	asked := model{theory: x, facts: facts}
	for _, s := range l {
		if pairs([]api.Step{s})[0] != lacking && asked.fault(s) == "" {
			asked.ahead = append(asked.ahead, s)
		}
	}
	return asked.ahead
}

// with: a step behind others; new memory.
func with(l []api.Step, s api.Step) []api.Step {
	return append(slices.Clone(l), s)
}

// TestRows: a step follows just if all that it needs is ahead.
func TestRows(t *testing.T) {
	t.Parallel()
	x, all := town(), knowns(t)
	for _, row := range allRows() {
		s, needs := step(row.step), needing(row.needs)
		follows, lacks := 0, map[api.Pair]int{}
		for _, k := range all {
			if suits := s.How != api.HowFact && s.Tag != api.MinusDelta || slices.Contains(k.facts, s.Lit) == (s.How == api.HowFact); !suits || !says(k.steps, needs) {
				wantClaimRefused(t, row.step, x, k.facts, with(k.steps, s), len(k.steps))
				continue
			}
			wantTaken(t, row.step, x, k.facts, with(k.steps, s))
			follows++
			for n, need := range needs {
				rest := without(x, k.facts, k.steps, need)
				if says(rest, slices.Delete(slices.Clone(needs), n, n+1)) {
					wantClaimRefused(t, row.step, x, k.facts, with(rest, s), len(rest))
					lacks[need]++
				}
			}
			if t.Failed() {
				return
			}
		}
		if follows == 0 {
			t.Errorf("never follows: %s", row.step)
		}
		for _, need := range needs {
			if lacks[need] == 0 {
				t.Errorf("%s: never lacks just %+v", row.step, need)
			}
		}
	}
}

// TestWrongInOneThing: whatever is ahead, and whatever are facts.
func TestWrongInOneThing(t *testing.T) {
	t.Parallel()
	x, all := town(), knowns(t)
	for n, row := range allRows() {
		for what, text := range row.wrong {
			for m := n % 3; m < len(all); m += 3 {
				k := all[m]
				b := modelBytes(with(k.steps, step(text)))
				if errno := wantAsModel(t, what, x, k.facts, b); errno == api.OK {
					t.Errorf("%s: the model takes %s", what, text)
				}
			}
			if t.Failed() {
				return
			}
		}
	}
}

// TestNoRow: a Tag and a How that are no row, with all that a row has beside them.
func TestNoRow(t *testing.T) {
	t.Parallel()
	x, all := town(), knowns(t)
	isRow := func(tag api.Tag, how api.How) bool {
		return slices.ContainsFunc(allRows(), func(row rowTest) bool { return step(row.step).Tag == tag && step(row.step).How == how })
	}
	many := 0
	for _, tag := range tags {
		for how := api.HowFact; how <= api.HowBeaten; how++ {
			if isRow(tag, how) {
				many++
				continue
			}
			for _, row := range allRows() {
				s := step(row.step)
				s.Tag, s.How = tag, how
				for m := 0; m < len(all); m += 50 {
					wantClaimRefused(t, "no row", x, all[m].facts, with(all[m].steps, s), len(all[m].steps))
				}
			}
		}
	}
	if many != 8 {
		t.Errorf("%d rows were seen", many)
	}
}

// TestFacts: of +D by a fact and of -D alone it is asked what is a fact.
func TestFacts(t *testing.T) {
	x := town()
	for lit := range 9 {
		for fact := range 9 {
			others := slices.DeleteFunc(upTo(9), func(n int) bool { return n == fact })
			s := api.Step{Tag: api.PlusDelta, Lit: lit, How: api.HowFact, Rule: -1}
			if lit == fact {
				wantTaken(t, "a fact", x, lits(fact), []api.Step{s})
				wantClaimRefused(t, "all but it", x, others, []api.Step{s}, 0)
			} else {
				wantClaimRefused(t, "another fact", x, lits(fact), []api.Step{s}, 0)
				wantTaken(t, "all but one", x, others, []api.Step{s})
			}
		}
	}
	for lit := range 4 {
		s := api.Step{Tag: api.MinusDelta, Lit: lit, How: api.HowNone, Rule: -1}
		wantTaken(t, "no fact", x, nil, []api.Step{s})
		wantTaken(t, "other facts", x, slices.DeleteFunc(upTo(9), func(n int) bool { return n == lit }), []api.Step{s})
		wantClaimRefused(t, "a fact", x, lits(lit), []api.Step{s}, 0)
	}
}
