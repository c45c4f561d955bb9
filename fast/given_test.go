package fast_test

import (
	"fmt"
	"math/bits"
	"slices"
	"strconv"
	"strings"
	"testing"

	"lexprior/api"
	"lexprior/fast"
	"lexprior/naive"
	"lexprior/theory"
)

var tags = []api.Tag{api.PlusDelta, api.MinusDelta, api.PlusPartial, api.MinusPartial}

// plain: a theory of so many literals and these rules, without foes.
func plain(lits int, rules ...api.Rule) api.Theory {
	return api.Theory{Lits: lits, Foes: make([][]int, lits), Rules: rules, Beats: make([][]int, len(rules))}
}

// insert: a number into a list that rises, once.
func insert(list *[]int, n int) {
	if place, there := slices.BinarySearch(*list, n); !there {
		*list = slices.Insert(*list, place, n)
	}
}

// enemies: these literals become foes of each other.
func enemies(t *api.Theory, lits ...int) {
	for _, a := range lits {
		for _, b := range lits {
			if a != b {
				insert(&t.Foes[a], b)
			}
		}
	}
}

// numbers: of a text, with blanks between them.
func numbers(text string) []int {
	var list []int
	for _, field := range strings.Fields(text) {
		n, err := strconv.Atoi(field)
		if err != nil {
			panic(err)
		}
		list = append(list, n)
	}
	return list
}

// from: a theory as a text says it: how many literals; then rules (-> strict, => defeasible, ~> defeaters), foes of each other (#), and which rules beat which (>).
func from(text string) api.Theory {
	parts := strings.Split(text, ";")
	x := plain(numbers(parts[0])[0])
	for _, part := range parts[1:] {
		for arrow, kind := range map[string]api.Arrow{"->": api.Strict, "=>": api.Defeasible, "~>": api.Defeater} {
			if body, head, is := strings.Cut(part, arrow); is {
				x.Rules = append(x.Rules, api.Rule{Kind: kind, Head: numbers(head)[0], Body: numbers(body)})
			}
		}
	}
	x.Beats = make([][]int, len(x.Rules))
	for _, part := range parts[1:] {
		switch {
		case strings.Contains(part, "#"):
			enemies(&x, numbers(strings.ReplaceAll(part, "#", " "))...)
		case strings.Contains(part, " > "):
			over, under, _ := strings.Cut(part, ">")
			insert(&x.Beats[numbers(over)[0]], numbers(under)[0])
		}
	}
	return x
}

// marks: of each literal, as texts say them.
func marks(texts ...string) []api.Marks {
	var list []api.Marks
	for _, text := range texts {
		var m api.Marks
		for _, field := range strings.Fields(text) {
			m |= map[string]api.Marks{"+D": 1, "-D": 2, "+d": 4, "-d": 8}[field]
		}
		list = append(list, m)
	}
	return list
}

// All that a literal can come to have.
const (
	held  = "+D +d"
	won   = "-D +d"
	lost  = "-D -d"
	open  = "-D"
	loose = "+d"
	none  = ""
)

// upTo: 0 to n - 1.
func upTo(n int) []int {
	var list []int
	for i := range n {
		list = append(list, i)
	}
	return list
}

// lits: a list that is easily read.
func lits(list ...int) []int {
	return list
}

// told: as much of it as a reader wants to see.
func told(thing any) string {
	return fmt.Sprintf("%.600s", fmt.Sprintf("%+v", thing))
}

// tally counts what a test saw, so that it can tell that it saw enough of it.
type tally map[string]int

func (y tally) want(t testing.TB, least int, all ...string) {
	t.Helper()
	for _, what := range all {
		if y[what] < least {
			t.Errorf("only %d times: %s", y[what], what)
		}
	}
}

// has: says a list the tag of a literal?
func has(list []api.Marks, lit int, tag api.Tag) bool {
	return list[lit]>>(tag-1)&1 == 1
}

// those: the literals that are so.
func those(lits int, so func(lit int) bool) []int {
	var list []int
	for lit := range lits {
		if so(lit) {
			list = append(list, lit)
		}
	}
	return list
}

func ran(t testing.TB, x api.Theory, facts []int) []api.Marks {
	t.Helper()
	list, errno := fast.Run(x, facts)
	if errno != api.OK || len(list) != x.Lits {
		t.Fatalf("P16.1: Run(%s, %s): %s, %d", told(x), told(facts), told(list), errno)
	}
	return list
}

// wantRun: by Run, and what other calls say of it.
func wantRun(t testing.TB, x api.Theory, facts []int, want []api.Marks) {
	t.Helper()
	if got, errno := fast.Run(x, facts); errno != api.OK || !slices.Equal(got, want) {
		t.Errorf("P16.1: Run(%s, %s): %s, %d, want %s", told(x), told(facts), told(got), errno, told(want))
	}
	wantSets(t, x, facts, want)
	wantCounted(t, x, facts, want)
	wantOrder(t, x, facts, want)
}

// wantAllOf: and Holds, of each literal and tag.
func wantAllOf(t testing.TB, x api.Theory, facts []int, want []api.Marks) {
	t.Helper()
	wantRun(t, x, facts, want)
	for lit := range want {
		for _, tag := range tags {
			wantHolds(t, x, facts, lit, tag, has(want, lit, tag))
		}
	}
}

func wantHolds(t testing.TB, x api.Theory, facts []int, lit int, tag api.Tag, want bool) {
	t.Helper()
	if got, errno := fast.Holds(x, facts, lit, tag); errno != api.OK || got != want {
		t.Errorf("P16.1: Holds(%s, %s, %d, %d): %t, %d, want %t", told(x), told(facts), lit, tag, got, errno, want)
	}
}

func wantSets(t testing.TB, x api.Theory, facts []int, want []api.Marks) {
	t.Helper()
	for _, tag := range tags {
		set := those(len(want), func(lit int) bool { return has(want, lit, tag) })
		if got, errno := fast.Set(x, facts, tag); errno != api.OK || !slices.Equal(got, set) {
			t.Errorf("P16.1: Set(%s, %s, %d): %s, %d, want %s", told(x), told(facts), tag, told(got), errno, told(set))
		}
	}
	undecided := those(len(want), func(lit int) bool { return want[lit]&12 == 0 })
	if got, errno := fast.Undecided(x, facts); errno != api.OK || !slices.Equal(got, undecided) {
		t.Errorf("P16.1: Undecided(%s, %s): %s, %d, want %s", told(x), told(facts), told(got), errno, told(undecided))
	}
}

// wantCounted: Queued is just as many as there are tags; each of them is taken out, and no more is done than the bound allows.
func wantCounted(t testing.TB, x api.Theory, facts []int, want []api.Marks) fast.Count {
	t.Helper()
	queued := 0
	for _, said := range want {
		queued += bits.OnesCount8(uint8(said))
	}
	l, b, p, errno := theory.Size(x)
	if errno != api.OK {
		t.Fatalf("Size(%s): %d", told(x), errno)
	}
	got, count, errno := fast.Counted(x, facts)
	if errno != api.OK || !slices.Equal(got, want) {
		t.Errorf("P16.2: Counted(%s, %s): %s, %d, want %s", told(x), told(facts), told(got), errno, told(want))
	}
	if count.Queued != queued {
		t.Errorf("P16.7: Counted(%s, %s): %d were queued, want %d", told(x), told(facts), count.Queued, queued)
	}
	if count.Updates < queued || count.Updates > 4*(l+b+p) {
		t.Errorf("P16.7: Counted(%s, %s): %d updates, want %d to %d", told(x), told(facts), count.Updates, queued, 4*(l+b+p))
	}
	return count
}

// wantOrder: just what there is, each tag once, and each by the conditions from those ahead of it (of a long list some are looked at).
func wantOrder(t testing.TB, x api.Theory, facts []int, want []api.Marks) {
	t.Helper()
	order, errno := fast.Order(x, facts)
	if errno != api.OK {
		t.Errorf("P16.3: Order(%s, %s): %d", told(x), told(facts), errno)
	}
	ahead := make([]api.Marks, x.Lits)
	each := 1
	if len(order) > 400 {
		each = len(order) / 40
	}
	for n, pair := range order {
		lit, tag := pair.A, api.Tag(pair.B)
		if lit < 0 || lit >= x.Lits || !slices.Contains(tags, tag) || has(ahead, lit, tag) {
			t.Errorf("P16.3: Order(%s, %s): %s: %d may not be there", told(x), told(facts), told(order), pair)
			return
		}
		if n%each == 0 {
			if holds, errno := naive.Holds(x, facts, ahead, tag, lit); errno != api.OK || !holds {
				t.Errorf("P16.3: Order(%s, %s): %s: %d does not follow", told(x), told(facts), told(order), pair)
			}
		}
		ahead[lit] |= 1 << (tag - 1)
	}
	if !slices.Equal(ahead, want) {
		t.Errorf("P16.3: Order(%s, %s): %s, want %s", told(x), told(facts), told(order), told(want))
	}
}

// wantDiffer: and the other way round.
func wantDiffer(t testing.TB, x api.Theory, a, b, want []int) {
	t.Helper()
	if got, errno := fast.Differ(x, a, b); errno != api.OK || !slices.Equal(got, want) {
		t.Errorf("P16.1: Differ(%s, %s, %s): %s, %d, want %s", told(x), told(a), told(b), told(got), errno, told(want))
	}
	if got, errno := fast.Differ(x, b, a); errno != api.OK || !slices.Equal(got, want) {
		t.Errorf("P16.1: Differ(%s, %s, %s): %s, %d, want %s", told(x), told(b), told(a), told(got), errno, told(want))
	}
}

// wantRefused: by all calls of a theory and facts, for this; beside it there is nothing. What else is asked does not matter.
func wantRefused(t testing.TB, x api.Theory, facts []int, errno api.Errno) {
	t.Helper()
	if got, gotErrno := fast.Run(x, facts); gotErrno != errno || len(got) > 0 {
		t.Errorf("P16.1: Run(%s, %s): %s, %d, want nothing, %d", told(x), told(facts), told(got), gotErrno, errno)
	}
	if got, count, gotErrno := fast.Counted(x, facts); gotErrno != errno || len(got) > 0 || count != (fast.Count{}) {
		t.Errorf("P16.1: Counted(%s, %s): %s, %d, %d, want nothing, %d", told(x), told(facts), told(got), count, gotErrno, errno)
	}
	if got, gotErrno := fast.Order(x, facts); gotErrno != errno || len(got) > 0 {
		t.Errorf("P16.1: Order(%s, %s): %s, %d, want nothing, %d", told(x), told(facts), told(got), gotErrno, errno)
	}
	if got, gotErrno := fast.Undecided(x, facts); gotErrno != errno || len(got) > 0 {
		t.Errorf("P16.1: Undecided(%s, %s): %s, %d, want nothing, %d", told(x), told(facts), told(got), gotErrno, errno)
	}
	for _, tag := range []api.Tag{0, 1, 3, 4, 5} {
		wantSetRefused(t, x, facts, tag, errno)
		for _, lit := range lits(-1, 0, 4097) {
			wantHoldsRefused(t, x, facts, lit, tag, errno)
		}
	}
}

func wantHoldsRefused(t testing.TB, x api.Theory, facts []int, lit int, tag api.Tag, errno api.Errno) {
	t.Helper()
	if got, gotErrno := fast.Holds(x, facts, lit, tag); gotErrno != errno || got {
		t.Errorf("P16.1: Holds(%s, %s, %d, %d): %t, %d, want false, %d", told(x), told(facts), lit, tag, got, gotErrno, errno)
	}
}

func wantSetRefused(t testing.TB, x api.Theory, facts []int, tag api.Tag, errno api.Errno) {
	t.Helper()
	if got, gotErrno := fast.Set(x, facts, tag); gotErrno != errno || len(got) > 0 {
		t.Errorf("P16.1: Set(%s, %s, %d): %s, %d, want nothing, %d", told(x), told(facts), tag, told(got), gotErrno, errno)
	}
}

func wantDifferRefused(t testing.TB, x api.Theory, a, b []int, errno api.Errno) {
	t.Helper()
	if got, gotErrno := fast.Differ(x, a, b); gotErrno != errno || len(got) > 0 {
		t.Errorf("P16.1: Differ(%s, %s, %s): %s, %d, want nothing, %d", told(x), told(a), told(b), told(got), gotErrno, errno)
	}
}
