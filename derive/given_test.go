package derive_test

import (
	"fmt"
	"slices"
	"strconv"
	"strings"
	"testing"

	"lexprior/api"
	"lexprior/derive"
)

var tags = []api.Tag{api.PlusDelta, api.MinusDelta, api.PlusPartial, api.MinusPartial}

// plain: a theory of so many literals and these rules, without foes.
func plain(lits int, rules ...api.Rule) api.Theory {
	return api.Theory{Lits: lits, Foes: make([][]int, lits), Rules: rules, Beats: make([][]int, len(rules))}
}

// rule: of that kind.
func rule(kind api.Arrow, head int, body ...int) api.Rule {
	return api.Rule{Kind: kind, Head: head, Body: body}
}

// insert: a number into a list that rises, once.
func insert(list *[]int, n int) {
	if place, there := slices.BinarySearch(*list, n); !there {
		*list = slices.Insert(*list, place, n)
	}
}

// enemies: these literals become foes of each other.
func enemies(t *api.Theory, lits ...int) {
	for _, a := range lits {
		for _, b := range lits {
			if a != b {
				insert(&t.Foes[a], b)
			}
		}
	}
}

func number(text string) int {
	n, err := strconv.Atoi(text)
	if err != nil {
		panic(err)
	}
	return n
}

// numbers: of a text, with blanks between them.
func numbers(text string) []int {
	var list []int
	for _, field := range strings.Fields(text) {
		list = append(list, number(field))
	}
	return list
}

// from: a theory as a text says it: how many literals; then rules (-> strict, => defeasible, ~> defeaters), foes of each other (#), and which rules beat which (>).
func from(text string) api.Theory {
	parts := strings.Split(text, ";")
	x := plain(numbers(parts[0])[0])
	for _, part := range parts[1:] {
		for arrow, kind := range map[string]api.Arrow{"->": api.Strict, "=>": api.Defeasible, "~>": api.Defeater} {
			if body, head, is := strings.Cut(part, arrow); is {
				x.Rules = append(x.Rules, api.Rule{Kind: kind, Head: numbers(head)[0], Body: numbers(body)})
			}
		}
	}
	x.Beats = make([][]int, len(x.Rules))
	for _, part := range parts[1:] {
		switch {
		case strings.Contains(part, "#"):
			enemies(&x, numbers(strings.ReplaceAll(part, "#", " "))...)
		case strings.Contains(part, " > "):
			over, under, _ := strings.Cut(part, ">")
			insert(&x.Beats[numbers(over)[0]], numbers(under)[0])
		}
	}
	return x
}

// step: as a text says it: the tag, the literal, how, and the rule, if it is not -1; then each choice as the numbers of its place and its rule.
func step(text string) api.Step {
	parts := strings.Split(text, "/")
	head := strings.Fields(parts[0])
	s := api.Step{
		Tag:  map[string]api.Tag{"+D": 1, "-D": 2, "+d": 3, "-d": 4}[head[0]],
		Lit:  number(head[1]),
		How:  map[string]api.How{"fact": 1, "rule": 2, "none": 3, "strict": 4, "beaten": 5}[head[2]],
		Rule: -1,
	}
	if len(head) > 3 {
		s.Rule = number(head[3])
	}
	for _, part := range parts[1:] {
		c := numbers(part)
		s.Choices = append(s.Choices, api.Choice{Place: c[0], Rule: c[1]})
	}
	return s
}

// steps: with ; between them.
func steps(text string) []api.Step {
	var l []api.Step
	for _, part := range strings.Split(text, ";") {
		if strings.TrimSpace(part) != "" {
			l = append(l, step(part))
		}
	}
	return l
}

// pairs: what steps say.
func pairs(l []api.Step) []api.Pair {
	var list []api.Pair
	for _, s := range l {
		list = append(list, api.Pair{A: s.Lit, B: int(s.Tag)})
	}
	return list
}

// saying: steps that say these, by nothing.
func saying(list ...api.Pair) []api.Step {
	var l []api.Step
	for _, p := range list {
		l = append(l, api.Step{Lit: p.A, Tag: api.Tag(p.B)})
	}
	return l
}

// everything: all that can be said of so many literals.
func everything(lits int) []api.Step {
	var all []api.Pair
	for lit := range lits {
		for _, tag := range tags {
			all = append(all, api.Pair{A: lit, B: int(tag)})
		}
	}
	return saying(all...)
}

// upTo: 0 to n - 1.
func upTo(n int) []int {
	var list []int
	for i := range n {
		list = append(list, i)
	}
	return list
}

// lits: a list that is easily read.
func lits(list ...int) []int {
	return list
}

// told: as much of it as a reader wants to see.
func told(thing any) string {
	return fmt.Sprintf("%.900s", fmt.Sprintf("%+v", thing))
}

// tally counts what a test saw, so that it can tell that it saw enough of it.
type tally map[string]int

func (y tally) want(t testing.TB, least int, all ...string) {
	t.Helper()
	for _, what := range all {
		if y[what] < least {
			t.Errorf("only %d times: %s", y[what], what)
		}
	}
}

// sameSteps: field by field; nil and empty choices are one.
func sameSteps(a, b []api.Step) bool {
	return slices.EqualFunc(a, b, func(a, b api.Step) bool {
		return a.Tag == b.Tag && a.Lit == b.Lit && a.How == b.How && a.Rule == b.Rule && slices.Equal(a.Choices, b.Choices)
	})
}

func wantFollows(t testing.TB, x api.Theory, facts []int, ahead []api.Step, s api.Step, want bool) {
	t.Helper()
	if got, errno := derive.Follows(x, facts, ahead, s); errno != api.OK || got != want {
		t.Errorf("P20.1: Follows(%s, %v, %s, %s): %t, %d, want %t", told(x), facts, told(ahead), told(s), got, errno, want)
	}
}

// wantChecked: it is a derivation.
func wantChecked(t testing.TB, x api.Theory, facts []int, l []api.Step) {
	t.Helper()
	if errno, n := derive.Check(x, facts, l); errno != api.OK || n != len(l) {
		t.Errorf("P20.1: Check(%s, %v, %s): %d, %d, want %d", told(x), facts, told(l), errno, n, len(l))
	}
}

// wantFault: it is none, for this, at that step.
func wantFault(t testing.TB, x api.Theory, facts []int, l []api.Step, errno api.Errno, at int) {
	t.Helper()
	if got, n := derive.Check(x, facts, l); got != errno || n != at {
		t.Errorf("P20.1: Check(%s, %v, %s): %d, %d, want %d, %d", told(x), facts, told(l), got, n, errno, at)
	}
	wantLeanRefused(t, x, facts, l, errno)
}

// derived: a derivation of just that, which is taken, is lean and is not too long.
func derived(t testing.TB, x api.Theory, facts []int, lit int, tag api.Tag) []api.Step {
	t.Helper()
	l, errno := derive.Derive(x, facts, lit, tag)
	if errno != api.OK || len(l) == 0 || l[len(l)-1].Lit != lit || l[len(l)-1].Tag != tag {
		t.Fatalf("P20.2: Derive(%s, %v, %d, %d): %s, %d", told(x), facts, lit, tag, told(l), errno)
	}
	wantChecked(t, x, facts, l)
	if why := notLean(x, l); why != "" {
		t.Errorf("P20.2: Derive(%s, %v, %d, %d): %s: %s", told(x), facts, lit, tag, told(l), why)
	}
	if len(l) > 2*x.Lits {
		t.Errorf("P20.7: Derive(%s, %v, %d, %d) has %d steps", told(x), facts, lit, tag, len(l))
	}
	return l
}

func wantDeriveRefused(t testing.TB, x api.Theory, facts []int, lit int, tag api.Tag, errno api.Errno) {
	t.Helper()
	if l, got := derive.Derive(x, facts, lit, tag); got != errno || len(l) > 0 {
		t.Errorf("P20.2: Derive(%s, %v, %d, %d): %s, %d, want nothing, %d", told(x), facts, lit, tag, told(l), got, errno)
	}
}

// wantAll: a derivation that tells just these tags, of each literal its marks, each once.
func wantAll(t testing.TB, x api.Theory, facts []int, want []api.Marks) []api.Step {
	t.Helper()
	l, errno := derive.All(x, facts)
	if errno != api.OK {
		t.Errorf("P20.2: All(%s, %v): %d", told(x), facts, errno)
	}
	wantChecked(t, x, facts, l)
	said := make([]api.Marks, x.Lits)
	for n, s := range l {
		if said[s.Lit]>>(s.Tag-1)&1 == 1 {
			t.Errorf("P20.2: All(%s, %v): %s: step %d says what one ahead does", told(x), facts, told(l), n)
		}
		said[s.Lit] |= 1 << (s.Tag - 1)
	}
	if !slices.Equal(said, want) {
		t.Errorf("P20.2: All(%s, %v): %s, want %s", told(x), facts, told(said), told(want))
	}
	return l
}

func wantAllRefused(t testing.TB, x api.Theory, facts []int, errno api.Errno) {
	t.Helper()
	if l, got := derive.All(x, facts); got != errno || len(l) > 0 {
		t.Errorf("P20.2: All(%s, %v): %s, %d, want nothing, %d", told(x), facts, told(l), got, errno)
	}
}

func wantNeeds(t testing.TB, x api.Theory, s api.Step, want ...api.Pair) {
	t.Helper()
	if got, errno := derive.Needs(x, s); errno != api.OK || !slices.Equal(got, want) {
		t.Errorf("P20.3: Needs(%s, %s): %s, %d, want %s", told(x), told(s), told(got), errno, told(want))
	}
}

func wantNeedsRefused(t testing.TB, x api.Theory, s api.Step, errno api.Errno) {
	t.Helper()
	if list, got := derive.Needs(x, s); got != errno || len(list) > 0 {
		t.Errorf("P20.3: Needs(%s, %s): %s, %d, want nothing, %d", told(x), told(s), told(list), got, errno)
	}
}

func wantLean(t testing.TB, x api.Theory, facts []int, l, want []api.Step) {
	t.Helper()
	if got, errno := derive.Lean(x, facts, l); errno != api.OK || !sameSteps(got, want) {
		t.Errorf("P20.4: Lean(%s, %v, %s): %s, %d, want %s", told(x), facts, told(l), told(got), errno, told(want))
	}
}

func wantLeanRefused(t testing.TB, x api.Theory, facts []int, l []api.Step, errno api.Errno) {
	t.Helper()
	if got, e := derive.Lean(x, facts, l); e != errno || len(got) > 0 {
		t.Errorf("P20.4: Lean(%s, %v, %s): %s, %d, want nothing, %d", told(x), facts, told(l), told(got), e, errno)
	}
}
