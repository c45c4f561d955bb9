package checker_test

import (
	"encoding/hex"
	"fmt"
	"slices"
	"strconv"
	"strings"
	"testing"

	"lexprior/api"
	"lexprior/checker"
)

var tags = []api.Tag{api.PlusDelta, api.MinusDelta, api.PlusPartial, api.MinusPartial}

// plain: a theory of so many literals and these rules, without foes.
func plain(lits int, rules ...api.Rule) api.Theory {
	return api.Theory{Lits: lits, Foes: make([][]int, lits), Rules: rules, Beats: make([][]int, len(rules))}
}

// rule: of that kind.
func rule(kind api.Arrow, head int, body ...int) api.Rule {
	return api.Rule{Kind: kind, Head: head, Body: body}
}

// insert: a number into a list that rises, once.
func insert(list *[]int, n int) {
	if place, there := slices.BinarySearch(*list, n); !there {
		*list = slices.Insert(*list, place, n)
	}
}

// enemies: these literals become foes of each other.
func enemies(t *api.Theory, lits ...int) {
	for _, a := range lits {
		for _, b := range lits {
			if a != b {
				insert(&t.Foes[a], b)
			}
		}
	}
}

func number(text string) int {
	n, err := strconv.Atoi(text)
	if err != nil {
		panic(err)
	}
	return n
}

// numbers: of a text, with blanks between them.
func numbers(text string) []int {
	var list []int
	for _, field := range strings.Fields(text) {
		list = append(list, number(field))
	}
	return list
}

// from: a theory as a text says it: how many literals; then rules (-> strict, => defeasible, ~> defeaters), foes of each other (#), and which rules beat which (>).
func from(text string) api.Theory {
	parts := strings.Split(text, ";")
	x := plain(numbers(parts[0])[0])
	for _, part := range parts[1:] {
		for arrow, kind := range map[string]api.Arrow{"->": api.Strict, "=>": api.Defeasible, "~>": api.Defeater} {
			if body, head, is := strings.Cut(part, arrow); is {
				x.Rules = append(x.Rules, api.Rule{Kind: kind, Head: numbers(head)[0], Body: numbers(body)})
			}
		}
	}
	x.Beats = make([][]int, len(x.Rules))
	for _, part := range parts[1:] {
		switch {
		case strings.Contains(part, "#"):
			enemies(&x, numbers(strings.ReplaceAll(part, "#", " "))...)
		case strings.Contains(part, " > "):
			over, under, _ := strings.Cut(part, ">")
			insert(&x.Beats[numbers(over)[0]], numbers(under)[0])
		}
	}
	return x
}

// step: as a text says it: the tag, the literal, how, and the rule, if it is not -1; then each choice as the numbers of its place and its rule.
func step(text string) api.Step {
	parts := strings.Split(text, "/")
	head := strings.Fields(parts[0])
	s := api.Step{
		Tag:  map[string]api.Tag{"+D": 1, "-D": 2, "+d": 3, "-d": 4}[head[0]],
		Lit:  number(head[1]),
		How:  map[string]api.How{"fact": 1, "rule": 2, "none": 3, "strict": 4, "beaten": 5}[head[2]],
		Rule: -1,
	}
	if len(head) > 3 {
		s.Rule = number(head[3])
	}
	for _, part := range parts[1:] {
		c := numbers(part)
		s.Choices = append(s.Choices, api.Choice{Place: c[0], Rule: c[1]})
	}
	return s
}

// steps: with ; between them.
func steps(text string) []api.Step {
	var l []api.Step
	for _, part := range strings.Split(text, ";") {
		if strings.TrimSpace(part) != "" {
			l = append(l, step(part))
		}
	}
	return l
}

// pairs: what steps say.
func pairs(l []api.Step) []api.Pair {
	var list []api.Pair
	for _, s := range l {
		list = append(list, api.Pair{A: s.Lit, B: int(s.Tag)})
	}
	return list
}

// upTo: 0 to n - 1.
func upTo(n int) []int {
	var list []int
	for i := range n {
		list = append(list, i)
	}
	return list
}

// lits: a list that is easily read.
func lits(list ...int) []int {
	return list
}

// told: as much of it as a reader wants to see.
func told(thing any) string {
	return fmt.Sprintf("%.900s", fmt.Sprintf("%+v", thing))
}

// tally counts what a test saw, so that it can tell that it saw enough of it.
type tally map[string]int

func (y tally) want(t testing.TB, least int, all ...string) {
	t.Helper()
	for _, what := range all {
		if y[what] < least {
			t.Errorf("only %d times: %s", y[what], what)
		}
	}
}

// digits: as many of the bytes as a reader wants to see.
func digits(b []byte) string {
	return fmt.Sprintf("%.600s", fmt.Sprintf("% X", b))
}

// unhex: bytes as a text says them.
func unhex(text string) []byte {
	b, err := hex.DecodeString(strings.Join(strings.Fields(text), ""))
	if err != nil {
		panic(err)
	}
	return b
}

// marks: of each of so many literals the tags that some step says.
func marks(many int, l []api.Step) []api.Marks {
	said := make([]api.Marks, many)
	for _, s := range l {
		said[s.Lit] |= 1 << (s.Tag - 1)
	}
	return said
}

// wantTaken: the bytes of these steps show what the last one says, and all say what they say.
func wantTaken(t testing.TB, what string, x api.Theory, facts []int, l []api.Step) {
	t.Helper()
	b, last := modelBytes(l), l[len(l)-1]
	want := checker.Claim{Lit: last.Lit, Tag: last.Tag, Steps: len(l)}
	if c, errno, at := checker.Check(x, facts, b); c != want || errno != api.OK || at != len(b) {
		t.Errorf("P22.1: %s: Check(%s, %v, %s): %+v, %d, %d, want %+v, %d", what, told(x), facts, told(l), c, errno, at, want, len(b))
	}
	if said, errno, at := checker.Shown(x, facts, b); errno != api.OK || at != 0 || !slices.Equal(said, marks(x.Lits, l)) {
		t.Errorf("P22.1: %s: Shown(%s, %v, %s): %s, %d, %d", what, told(x), facts, told(l), told(said), errno, at)
	}
	accepts := func(lit int, tag api.Tag) {
		t.Helper()
		if got := checker.Accepts(x, facts, b, lit, tag); got != (lit == last.Lit && tag == last.Tag) {
			t.Errorf("P22.1: %s: Accepts(%s, %v, %s, %d, %d): %t", what, told(x), facts, told(l), lit, tag, got)
		}
	}
	for tag := api.Tag(0); tag < 6; tag++ {
		accepts(last.Lit, tag)
	}
	for _, lit := range lits(last.Lit+1, last.Lit-1, l[0].Lit) {
		accepts(lit, last.Tag)
	}
	accepts(l[0].Lit, l[0].Tag)
}

// wantRefused: the bytes show nothing, for this, at that place.
func wantRefused(t testing.TB, what string, x api.Theory, facts []int, b []byte, errno api.Errno, at int) {
	t.Helper()
	if c, got, n := checker.Check(x, facts, b); c != (checker.Claim{}) || got != errno || n != at {
		t.Errorf("P22.1, P4: %s: Check(%s, %v, %s): %+v, %d, %d, want nothing, %d, %d", what, told(x), facts, digits(b), c, got, n, errno, at)
	}
	if said, got, n := checker.Shown(x, facts, b); len(said) > 0 || got != errno || n != at {
		t.Errorf("P22.1, P4: %s: Shown(%s, %v, %s): %s, %d, %d, want nothing, %d, %d", what, told(x), facts, digits(b), told(said), got, n, errno, at)
	}
	for tag := api.Tag(0); tag < 5; tag++ {
		if checker.Accepts(x, facts, b, 0, tag) {
			t.Errorf("P22.1: %s: Accepts(%s, %v, %s, 0, %d)", what, told(x), facts, digits(b), tag)
		}
	}
}

// wantClaimRefused: the steps are of the form, but that one does not follow.
func wantClaimRefused(t testing.TB, what string, x api.Theory, facts []int, l []api.Step, at int) {
	t.Helper()
	wantRefused(t, what+": "+told(l), x, facts, modelBytes(l), api.ErrClaim, at)
}

// wantAsModel: what the calls say of bytes is what the chapter does, of a theory and facts that may be. It says what was told.
func wantAsModel(t testing.TB, what string, x api.Theory, facts []int, b []byte) api.Errno {
	t.Helper()
	l, errno, at := modelCheck(x, facts, b)
	if errno != api.OK {
		wantRefused(t, what, x, facts, b, errno, at)
		return errno
	}
	wantTaken(t, what, x, facts, l)
	return errno
}

// certified: bytes that are taken for just that, and are not too long.
func certified(t testing.TB, x api.Theory, facts []int, lit int, tag api.Tag) []byte {
	t.Helper()
	b, errno := checker.Certify(x, facts, lit, tag)
	if errno != api.OK || !checker.Accepts(x, facts, b, lit, tag) {
		t.Fatalf("P22.2: Certify(%s, %v, %d, %d): %s, %d", told(x), facts, lit, tag, digits(b), errno)
	}
	c, _, _ := checker.Check(x, facts, b)
	if c.Steps < 1 || c.Steps > 2*x.Lits {
		t.Errorf("P22.7: Certify(%s, %v, %d, %d) has %d steps", told(x), facts, lit, tag, c.Steps)
	}
	return b
}

func wantCertifyRefused(t testing.TB, x api.Theory, facts []int, lit int, tag api.Tag, errno api.Errno) {
	t.Helper()
	if b, got := checker.Certify(x, facts, lit, tag); got != errno || len(b) > 0 {
		t.Errorf("P22.2, P4: Certify(%s, %v, %d, %d): %s, %d, want nothing, %d", told(x), facts, lit, tag, digits(b), got, errno)
	}
}

// wantWhole: bytes that show just these.
func wantWhole(t testing.TB, x api.Theory, facts []int, want []api.Marks) []byte {
	t.Helper()
	b, errno := checker.Whole(x, facts)
	if said, got, at := checker.Shown(x, facts, b); errno != api.OK || got != api.OK || !slices.Equal(said, want) {
		t.Errorf("P22.2: Whole(%s, %v): %s, %d: Shown: %s, %d, %d, want %s", told(x), facts, digits(b), errno, told(said), got, at, told(want))
	}
	return b
}

func wantWholeRefused(t testing.TB, x api.Theory, facts []int, errno api.Errno) {
	t.Helper()
	if b, got := checker.Whole(x, facts); got != errno || len(b) > 0 {
		t.Errorf("P22.2, P4: Whole(%s, %v): %s, %d, want nothing, %d", told(x), facts, digits(b), got, errno)
	}
}
