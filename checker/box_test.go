package checker_test

import (
	"iter"
	"slices"
	"testing"

	"lexprior/api"
	"lexprior/checker"
	"lexprior/derive"
)

// box: all steps that bytes can tell, with numbers about as great as the theory's, and with up to so many choices.
func box(x api.Theory, choices int) iter.Seq[api.Step] {
	most := len(x.Rules)
	for _, rule := range x.Rules {
		most = max(most, len(rule.Body))
	}
	return func(yield func(api.Step) bool) {
		for list := range choiceLists(choices, most, len(x.Rules)) {
			for n := range 4 * 5 * (x.Lits + 1) * (max(len(x.Rules), x.Lits) + 2) {
				s := api.Step{Tag: api.Tag(1 + n%4), How: api.How(1 + n/4%5), Lit: n / 20 % (x.Lits + 1), Rule: n/20/(x.Lits+1) - 1, Choices: list}
				if !yield(s) {
					return
				}
			}
		}
	}
}

// choiceLists: all, of places and rules from -1 up to these.
func choiceLists(longest, places, rules int) iter.Seq[[]api.Choice] {
	return func(yield func([]api.Choice) bool) {
		each := (places + 2) * (rules + 2)
		many := 1
		for length := range longest + 1 {
			for n := range many {
				var list []api.Choice
				for rest := n; len(list) < length; rest /= each {
					list = append(list, api.Choice{Place: rest%each%(places+2) - 1, Rule: rest%each/(places+2) - 1})
				}
				if !yield(list) {
					return
				}
			}
			many *= each
		}
	}
}

// TestAllStepsOfSmallTheories: one by one, behind all beginnings of a derivation, as the model says.
func TestAllStepsOfSmallTheories(t *testing.T) {
	t.Parallel()
	seen := tally{}
	for _, text := range []string{
		"2; => 0; => 1; 0 # 1; 0 > 1", "2; 1 -> 0; 0 => 1; 0 # 1; 1 > 0", "2; 0 => 0; ~> 1; 0 # 1; 0 > 1", "2; -> 0; 0 1 ~> 1; 0 # 1; 1 > 0",
		"1; 0 -> 0; => 0", "1", "3; 1 => 0; 2 => 1; 0 # 1", "3; 2 -> 0; 2 ~> 1; 0 # 1; 0 # 2",
	} {
		x := from(text)
		for _, facts := range [][]int{nil, {0}, upTo(x.Lits)[x.Lits-1:]} {
			all, errno := derive.All(x, facts)
			if errno != api.OK {
				t.Fatalf("All: %d", errno)
			}
			for n := range len(all) + 1 {
				ahead := all[:n:n]
				asked := model{theory: x, facts: facts, ahead: ahead}
				for s := range box(x, 1) {
					why := asked.fault(s)
					l := append(ahead, s)
					if wantStep(t, x, facts, l, why); why == "" {
						seen[rowOf(s)]++
					}
				}
				if t.Failed() {
					return
				}
			}
		}
	}
	seen.want(t, 5, rowNames()...)
}

// wantStep: the last step follows just if there is no reason why not; all others do.
func wantStep(t testing.TB, x api.Theory, facts []int, l []api.Step, why string) {
	t.Helper()
	b, last := modelBytes(l), l[len(l)-1]
	want, errno, at := checker.Claim{Lit: last.Lit, Tag: last.Tag, Steps: len(l)}, api.OK, len(b)
	if why != "" {
		want, errno, at = checker.Claim{}, api.ErrClaim, len(l)-1
	}
	if c, got, place := checker.Check(x, facts, b); c != want || got != errno || place != at {
		t.Errorf("P22.1: Check(%s, %v, %s): %+v, %d, %d, but: %s", told(x), facts, told(l), c, got, place, why)
	}
}

// rowOf: the row's name.
func rowOf(s api.Step) string {
	return []string{"?", "+D", "-D", "+d", "-d"}[s.Tag] + []string{"?", " fact", " rule", " none", " strict", " beaten"}[s.How]
}

func rowNames() []string {
	return []string{"+D fact", "+D rule", "-D none", "+d strict", "+d rule", "-d none", "-d strict", "-d beaten"}
}

// allForms: all steps that are of the form.
func allForms(x api.Theory) []api.Step {
	asked := model{theory: x}
	var all []api.Step
	for n := range 20 * x.Lits {
		s := api.Step{Tag: tags[n%4], How: api.How(1 + n/4%5), Lit: n / 20}
		l, _ := asked.line(s)
		for _, s.Rule = range l.may {
			l, _ := asked.line(s)
			lists := [][]api.Choice{nil}
			for _, r := range l.asked {
				var longer [][]api.Choice
				for _, list := range lists {
					for _, c := range asked.choices(l, s.Lit, r) {
						longer = append(longer, append(slices.Clone(list), c))
					}
				}
				lists = longer
			}
			for _, s.Choices = range lists {
				all = append(all, s)
			}
		}
	}
	return all
}

// TestNothingElseIsTaken: whatever steps are tried, of all that there are, the tags that the conditions give are said, and no others (P22.3, P22.4).
func TestNothingElseIsTaken(t *testing.T) {
	t.Parallel()
	m := newMaker(251)
	seen := tally{}
	for range 300 {
		x := pick(m, m.theory, m.row)(4, 7)
		facts := m.some(2, x.Lits)
		all := allForms(x)
		if len(all) > 600 {
			continue
		}
		m.chance.Shuffle(len(all), func(a, b int) { all[a], all[b] = all[b], all[a] })
		var l []api.Step
		said := make([]api.Marks, x.Lits)
		for grown := true; grown; {
			grown = false
			for _, s := range all {
				bit := api.Marks(1) << (s.Tag - 1)
				_, errno, _ := checker.Check(x, facts, modelBytes(with(l, s)))
				if errno == api.OK && said[s.Lit]&bit == 0 {
					l, grown = append(l, s), true
					said[s.Lit] |= bit
					seen[rowOf(s)]++
				}
			}
		}
		if want := solved(t, x, facts); !slices.Equal(said, want) {
			t.Fatalf("P22.3, P22.4: of %+v and %v: %+v say %v, want %v", x, facts, l, said, want)
		}
		if len(l) > 0 {
			wantTaken(t, "all", x, facts, l)
		}
	}
	seen.want(t, 10, rowNames()...)
}
