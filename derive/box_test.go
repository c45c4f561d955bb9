package derive_test

import (
	"iter"
	"slices"
	"testing"

	"lexprior/api"
	"lexprior/derive"
)

// box: all steps with numbers about as great as the theory's, and with up to so many choices.
func box(x api.Theory, choices int) iter.Seq[api.Step] {
	most := len(x.Rules)
	for _, rule := range x.Rules {
		most = max(most, len(rule.Body))
	}
	return func(yield func(api.Step) bool) {
		for list := range choiceLists(choices, most, len(x.Rules)) {
			for n := range 6 * 7 * (x.Lits + 2) * (len(x.Rules) + x.Lits + 2) {
				s := api.Step{Tag: api.Tag(n % 6), How: api.How(n / 6 % 7), Lit: n/42%(x.Lits+2) - 1, Rule: n/42/(x.Lits+2) - 1, Choices: list}
				if !yield(s) {
					return
				}
			}
		}
	}
}

// choiceLists: all, of places and rules from -1 up to these.
func choiceLists(longest, places, rules int) iter.Seq[[]api.Choice] {
	return func(yield func([]api.Choice) bool) {
		each := (places + 2) * (rules + 2)
		many := 1
		for length := range longest + 1 {
			for n := range many {
				var list []api.Choice
				for rest := n; len(list) < length; rest /= each {
					list = append(list, api.Choice{Place: rest%each%(places+2) - 1, Rule: rest%each/(places+2) - 1})
				}
				if !yield(list) {
					return
				}
			}
			many *= each
		}
	}
}

// TestAllStepsOfSmallTheories: one by one, as the model says.
func TestAllStepsOfSmallTheories(t *testing.T) {
	t.Parallel()
	seen := tally{}
	for _, text := range []string{
		"2; => 0; => 1; 0 # 1; 0 > 1", "2; 1 -> 0; 0 => 1; 0 # 1; 1 > 0", "2; 0 => 0; ~> 1; 0 # 1; 0 > 1", "2; -> 0; 0 1 ~> 1; 0 # 1; 1 > 0", "1; 0 -> 0; => 0", "1",
	} {
		x := from(text)
		for _, facts := range [][]int{nil, {0}} {
			for _, ahead := range [][]api.Step{nil, everything(x.Lits), steps("-D 1 none; -D 0 none; +d 0 rule; -d 1 none"), steps("+D 0 fact; -D 1 none; -d 0 none; +d 1 none")} {
				asked := model{theory: x, facts: facts, ahead: ahead}
				for s := range box(x, 1) {
					why := asked.fault(s)
					if got, errno := derive.Follows(x, facts, ahead, s); errno != api.OK || got != (why == "") {
						t.Fatalf("P20.1: %s: Follows(%v, %+v, %+v): %t, %d, but: %s", text, facts, ahead, s, got, errno, why)
					}
					if why == "" {
						seen[rowOf(s)]++
					}
				}
			}
		}
	}
	seen.want(t, 2, rowNames()...)
}

// allForms: all steps that are of the form.
func allForms(x api.Theory) []api.Step {
	asked := model{theory: x}
	var all []api.Step
	for n := range 20 * x.Lits {
		s := api.Step{Tag: tags[n%4], How: api.How(1 + n/4%5), Lit: n / 20}
		l, _ := asked.line(s)
		for _, s.Rule = range l.may {
			l, _ := asked.line(s)
			lists := [][]api.Choice{nil}
			for _, r := range l.asked {
				var longer [][]api.Choice
				for _, list := range lists {
					for _, c := range asked.choices(l, s.Lit, r) {
						longer = append(longer, append(slices.Clone(list), c))
					}
				}
				lists = longer
			}
			for _, s.Choices = range lists {
				all = append(all, s)
			}
		}
	}
	return all
}

// TestAllForms: the forms of small theories are those that are found in a box one by one.
func TestAllForms(t *testing.T) {
	t.Parallel()
	for _, text := range []string{"2; => 0; => 1; 0 # 1; 0 > 1", "2; 0 -> 0; 0 1 -> 0; 0 => 1; 0 # 1; 2 > 1"} {
		x := from(text)
		many := 0
		for s := range box(x, 2) {
			if _, errno := derive.Needs(x, s); errno == api.OK {
				many++
			}
		}
		for _, s := range allForms(x) {
			if list, errno := derive.Needs(x, s); errno != api.OK {
				t.Errorf("P20.3: Needs(%s, %+v): %v, %d", text, s, list, errno)
			}
		}
		if all := len(allForms(x)); all != many || all < 10 {
			t.Errorf("P20.3: %s: %d steps, but %d in the box", text, all, many)
		}
	}
}

// TestNothingElseFollows: whatever steps are taken, of all that there are, the tags that the conditions give are told, and no others (P20.5).
func TestNothingElseFollows(t *testing.T) {
	t.Parallel()
	m := newMaker(218)
	seen := tally{}
	for range 400 {
		x := pick(m, m.theory, m.row)(4, 7)
		facts := m.some(2, x.Lits)
		all := allForms(x)
		if len(all) > 3000 {
			continue
		}
		m.chance.Shuffle(len(all), func(a, b int) { all[a], all[b] = all[b], all[a] })
		asked, said := model{theory: x, facts: facts}, make([]api.Marks, x.Lits)
		for grown := true; grown; {
			grown = false
			for _, s := range all {
				bit := api.Marks(1) << (s.Tag - 1)
				follows, errno := derive.Follows(x, facts, asked.ahead, s)
				if errno != api.OK || follows != (asked.fault(s) == "") {
					t.Fatalf("P20.1: Follows(%+v, %v, %+v, %+v): %t, %d", x, facts, asked.ahead, s, follows, errno)
				}
				if follows && said[s.Lit]&bit == 0 {
					asked.ahead, grown = append(asked.ahead, s), true
					said[s.Lit] |= bit
					seen[rowOf(s)]++
				}
			}
		}
		wantChecked(t, x, facts, asked.ahead)
		if want := solved(t, x, facts); !slices.Equal(said, want) {
			t.Fatalf("P20.5: of %+v and %v: %+v say %v, want %v", x, facts, asked.ahead, said, want)
		}
	}
	seen.want(t, 10, rowNames()...)
}
