package strict_test

import (
	"slices"
	"testing"

	"lexprior/api"
	"lexprior/ground"
	"lexprior/prior"
	"lexprior/strict"
	"lexprior/syntax"
)

// asked: what a call answers of a theory and facts that may be.
func asked(t testing.TB, call func(api.Theory, []int) ([]int, api.Errno), x api.Theory, facts []int) []int {
	t.Helper()
	list, errno := call(x, facts)
	if errno != api.OK {
		t.Fatalf("P14.1: of %+v and %d: %d", x, facts, errno)
	}
	return list
}

// any: a theory of one of the makers.
func (m *maker) any() api.Theory {
	return pick(m, m.theory, m.straight, m.row)(pick(m, 5, 12, 20), pick(m, 4, 20, 40))
}

func TestCoherent(t *testing.T) {
	t.Parallel()
	m := newMaker(151)
	seen := tally{}
	for range 10000 {
		x := m.any()
		facts := m.some(5, x.Lits)
		plus, minus, neither := asked(t, strict.Plus, x, facts), asked(t, strict.Minus, x, facts), asked(t, strict.Neither, x, facts)
		for _, lit := range plus {
			if slices.Contains(minus, lit) {
				t.Fatalf("P14.6: of %+v and %d %d has +D and -D", x, facts, lit)
			}
		}
		all := slices.Concat(plus, minus, neither)
		slices.Sort(all)
		if !slices.Equal(all, upTo(x.Lits)) {
			t.Fatalf("P14.1: of %+v and %d: %d, %d and %d are not each literal once", x, facts, plus, minus, neither)
		}
		seen["+D"] += len(plus)
		seen["-D"] += len(minus)
		seen["neither"] += len(neither)
	}
	seen.want(t, 3000, "+D", "-D", "neither")
}

func union(a, b []int) []int {
	all := slices.Concat(a, b)
	slices.Sort(all)
	return slices.Compact(all)
}

func TestMonotone(t *testing.T) {
	t.Parallel()
	m := newMaker(152)
	grew := 0
	for range 10000 {
		x := m.any()
		facts := m.some(5, x.Lits)
		more := union(facts, m.some(3, x.Lits))
		less, all := asked(t, strict.Plus, x, facts), asked(t, strict.Plus, x, more)
		if !slices.Equal(union(less, all), all) {
			t.Fatalf("P14.7: of %+v with %d %d have +D, with %d %d", x, facts, less, more, all)
		}
		if len(all)-len(less) > len(more)-len(facts) {
			grew++
		}
	}
	if grew < 500 {
		t.Errorf("only %d times more than the facts came", grew)
	}
}

// TestWithoutCircles: of strict rules; the others may have some.
func TestWithoutCircles(t *testing.T) {
	t.Parallel()
	m := newMaker(153)
	deepest := 0
	for range 10000 {
		x := m.straight(20, 30)
		facts := m.some(5, x.Lits)
		if neither := asked(t, strict.Neither, x, facts); len(neither) > 0 {
			t.Fatalf("P14.8: of %+v and %d %d have neither", x, facts, neither)
		}
		heights := asked(t, strict.Heights, x, facts)
		if slices.Contains(heights, 0) {
			t.Fatalf("P14.8: of %+v and %d the heights are %d", x, facts, heights)
		}
		deepest = max(deepest, slices.Max(append(heights, 0)))
	}
	if deepest < 6 {
		t.Errorf("only %d rounds were seen", deepest)
	}
}

// TestLeastSuffices: and it is facts that were given.
func TestLeastSuffices(t *testing.T) {
	t.Parallel()
	m := newMaker(154)
	fewer := 0
	for range 4000 {
		x := m.any()
		facts := m.some(9, x.Lits)
		for _, lit := range asked(t, strict.Plus, x, facts) {
			least, errno := strict.Least(x, facts, lit)
			if errno != api.OK || !slices.Equal(union(least, facts), facts) {
				t.Fatalf("P14.5: Least(%+v, %d, %d): %d, %d", x, facts, lit, least, errno)
			}
			if !slices.Contains(asked(t, strict.Plus, x, least), lit) {
				t.Fatalf("P14.9: of %+v %d has no +D by %d alone", x, lit, least)
			}
			if len(least) > 0 && len(least) < len(facts) {
				fewer++
			}
		}
	}
	if fewer < 1000 {
		t.Errorf("only %d rest on some of the facts", fewer)
	}
}

// restsOn: is this literal of round n said by what was said ahead, and not a round earlier?
func restsOn(x api.Theory, heights []int, plus []int, lit int) bool {
	n := heights[lit]
	isPlus := slices.Contains(plus, lit)
	first, last := n, 0
	for _, rule := range x.Rules {
		if rule.Kind != api.Strict || rule.Head != lit {
			continue
		}
		// A rule's +D comes with the last of its body, its -D with the first.
		whole, refuted := 0, n
		for _, a := range rule.Body {
			switch said := heights[a]; {
			case said == 0 || !slices.Contains(plus, a):
				whole = n
				if said > 0 {
					refuted = min(refuted, said)
				}
			default:
				whole = max(whole, said)
			}
		}
		first, last = min(first, whole), max(last, refuted)
	}
	if isPlus {
		return first == n-1
	}
	return last == n-1
}

func TestRoundsRest(t *testing.T) {
	t.Parallel()
	m := newMaker(155)
	seen := tally{}
	for range 10000 {
		x := m.any()
		facts := m.some(5, x.Lits)
		heights, plus := asked(t, strict.Heights, x, facts), asked(t, strict.Plus, x, facts)
		for lit, n := range heights {
			if n > 1 && !restsOn(x, heights, plus, lit) {
				t.Fatalf("P14.10: of %+v and %d, with the rounds %d, %d does not rest on one of the round %d", x, facts, heights, lit, n-1)
			}
			if n > 3 {
				seen[told(slices.Contains(plus, lit))]++
			}
		}
		if all := union(heights, lits(0)); !slices.Equal(all, upTo(len(all))) {
			t.Fatalf("P14.10: of %+v and %d a round is left out: %d", x, facts, heights)
		}
	}
	seen.want(t, 500, "true", "false")
}

// TestLoopsGoOn: each next literal has neither, and only the last one is there twice.
func TestLoopsGoOn(t *testing.T) {
	t.Parallel()
	m := newMaker(156)
	for range 4000 {
		x := m.any()
		facts := m.some(2, x.Lits)
		neither := asked(t, strict.Neither, x, facts)
		for _, lit := range neither {
			loop, errno := strict.Loop(x, facts, lit)
			if errno != api.OK || len(loop) < 2 || loop[0] != lit || !slices.Equal(union(loop, neither), neither) {
				t.Fatalf("P14.3: Loop(%+v, %d, %d): %d, %d", x, facts, lit, loop, errno)
			}
			most := loop[:len(loop)-1]
			if len(union(most, nil)) != len(most) || !slices.Contains(most, loop[len(loop)-1]) {
				t.Fatalf("P14.3: Loop(%+v, %d, %d): %d", x, facts, lit, loop)
			}
		}
	}
}

// TestStatute: from a text on.
func TestStatute(t *testing.T) {
	text := `kind person. member ann, ben : person. pred old(person). pred frail(person). pred single(person). pred married(person). class single, married.
amount help(person) : 10, 20. source act rank 2. rule a of act at 2001-01-01 : old(X) -> frail(X). rule b of act at 2001-01-01 : frail(X) -> help(X) = 20.
rule c of act at 2001-01-01 : old(X) => help(X) = 10. rule d of act at 2001-01-01 : single(X) -> help(X) = 10.`
	s, errno, at := syntax.Parse(text)
	if errno != api.OK {
		t.Fatalf("Parse: %d, %d", errno, at)
	}
	g, errno, at := ground.Ground(s)
	if errno != api.OK {
		t.Fatalf("Ground: %d, %d", errno, at)
	}
	g, errno, _ = prior.Build(s, g)
	if errno != api.OK {
		t.Fatalf("Build: %d", errno)
	}
	number := map[string]int{}
	for lit := range g.Lits {
		name, _ := ground.Lit(s, g, lit)
		number[name] = lit
	}
	of := func(names ...string) []int {
		var list []int
		for _, name := range names {
			lit, there := number[name]
			if !there {
				t.Fatalf("there is no %s", name)
			}
			list = append(list, lit)
		}
		slices.Sort(list)
		return list
	}
	facts := of("old(ann)", "single(ann)", "old(ben)")
	if got, want := asked(t, strict.Plus, g.Theory, facts), of("old(ann)", "single(ann)", "old(ben)", "frail(ann)", "frail(ben)", "help(ann) = 20", "help(ann) = 10", "help(ben) = 20"); !slices.Equal(got, want) {
		t.Errorf("P14.1: Plus: %d, want %d", got, want)
	}
	clash := of("help(ann) = 10", "help(ann) = 20")
	wantClash(t, g.Theory, facts, pair(clash[0], clash[1]))
	wantLeast(t, g.Theory, facts, number["help(ann) = 20"], of("old(ann)"), api.OK)
	wantLeast(t, g.Theory, facts, number["help(ann) = 10"], of("single(ann)"), api.OK)
	wantLeast(t, g.Theory, facts, number["help(ben) = 10"], nil, api.ErrNone)
	if neither := asked(t, strict.Neither, g.Theory, facts); len(neither) > 0 {
		t.Errorf("P14.8: %d have neither", neither)
	}
}
