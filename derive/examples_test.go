package derive_test

import (
	"testing"

	"lexprior/api"
	"lexprior/derive"
	"lexprior/ground"
	"lexprior/prior"
	"lexprior/syntax"
)

// wantDerived: where there is just one lean derivation.
func wantDerived(t *testing.T, x api.Theory, facts []int, lit int, tag api.Tag, want string) {
	t.Helper()
	if l := derived(t, x, facts, lit, tag); !sameSteps(l, steps(want)) {
		t.Errorf("P20.2: Derive(%s, %v, %d, %d): %s, want %s", told(x), facts, lit, tag, told(l), want)
	}
}

// TestExamples: the chapter's.
func TestExamples(t *testing.T) {
	x := from("2; => 0; 0 # 1")
	wantDerived(t, x, nil, 0, api.PlusPartial, "-D 1 none; +d 0 rule 0")
	wantDeriveRefused(t, x, nil, 1, api.PlusPartial, api.ErrNone)
	x = from("2; => 0; => 1; 0 # 1; 0 > 1")
	wantDerived(t, x, nil, 0, api.PlusPartial, "-D 1 none; +d 0 rule 0 / -1 0")
	wantDerived(t, x, nil, 1, api.MinusPartial, "-D 1 none; -d 1 beaten 0")
}

// TestEachTag: of each that a literal has there is a derivation, of no other.
func TestEachTag(t *testing.T) {
	just := func(text string, facts []int, want map[string]string) {
		t.Helper()
		x := from(text)
		for lit := range x.Lits {
			for n, tag := range []string{"+D ", "-D ", "+d ", "-d "} {
				name := tag + told(lit)
				if l, there := want[name]; there {
					wantDerived(t, x, facts, lit, tags[n], l)
				} else {
					wantDeriveRefused(t, x, facts, lit, tags[n], api.ErrNone)
				}
			}
		}
	}
	just("1", lits(0), map[string]string{"+D 0": "+D 0 fact", "+d 0": "+D 0 fact; +d 0 strict"})
	just("1", nil, map[string]string{"-D 0": "-D 0 none", "-d 0": "-D 0 none; -d 0 none"})
	just("1; -> 0", nil, map[string]string{"+D 0": "+D 0 rule 0", "+d 0": "+D 0 rule 0; +d 0 strict"})
	just("1; => 0", nil, map[string]string{"-D 0": "-D 0 none", "+d 0": "+d 0 rule 0"})
	just("1; ~> 0", nil, map[string]string{"-D 0": "-D 0 none", "-d 0": "-D 0 none; -d 0 none"})
	just("1; 0 => 0", nil, map[string]string{"-D 0": "-D 0 none"})
	just("1; 0 -> 0", nil, nil)
	just("1; 0 -> 0; => 0", nil, map[string]string{"+d 0": "+d 0 rule 1"})
	just("2; 0 -> 1; 0 # 1", lits(0), map[string]string{
		"+D 0": "+D 0 fact", "+d 0": "+D 0 fact; +d 0 strict", "+D 1": "+D 0 fact; +D 1 rule 0", "+d 1": "+D 0 fact; +D 1 rule 0; +d 1 strict",
	})
	just("2; => 1; 0 # 1", lits(0), map[string]string{
		"+D 0": "+D 0 fact", "+d 0": "+D 0 fact; +d 0 strict", "-D 1": "-D 1 none", "-d 1": "+D 0 fact; -D 1 none; -d 1 strict 0",
	})
	just("2; ~> 0; => 1; 0 # 1", nil, map[string]string{
		"-D 0": "-D 0 none", "-d 0": "-D 0 none; -d 0 none", "-D 1": "-D 1 none", "-d 1": "-D 1 none; -d 1 beaten 0",
	})
}

// TestAllOfNothing: no literal, and literals of which nothing can be told.
func TestAllOfNothing(t *testing.T) {
	for _, x := range []api.Theory{{}, {Foes: [][]int{}, Rules: []api.Rule{}, Beats: [][]int{}}, from("1; 0 -> 0"), from("3; 0 -> 1; 1 -> 2; 2 -> 0"), from("2; 0 -> 0; 1 -> 1; 0 # 1; => 0; => 1; 2 > 3")} {
		if l := wantAll(t, x, nil, make([]api.Marks, x.Lits)); len(l) > 0 {
			t.Errorf("P20.2: All(%+v): %+v", x, l)
		}
		for lit := range x.Lits {
			for _, tag := range tags {
				wantDeriveRefused(t, x, nil, lit, tag, api.ErrNone)
			}
		}
	}
	wantAll(t, from("2; 0 -> 0"), nil, []api.Marks{0, 10})
	wantAll(t, from("2; 0 -> 0"), lits(0), []api.Marks{5, 10})
	wantAll(t, from("2; 0 -> 0; => 0"), nil, []api.Marks{4, 10})
}

// TestStatutes: the document's own examples, from their texts on.
func TestStatutes(t *testing.T) {
	const text = `kind person. member anna : person. pred old(person). pred rich(person). amount help(person) : 10, 20.
source act rank 2. source decree rank 1.
rule a of act at 2001-01-01 : old(X) => help(X) = 20. rule b of decree at 2009-01-01 : rich(X) => help(X) = 10.`
	for _, c := range []struct{ exception, plus, minus string }{
		{"", "help(anna) = 20", "help(anna) = 10"},
		{" exception b to a.", "help(anna) = 10", "help(anna) = 20"},
	} {
		s, errno, at := syntax.Parse(text + c.exception)
		if errno != api.OK {
			t.Fatalf("Parse: %d, %d", errno, at)
		}
		g, errno, at := ground.Ground(s)
		if errno != api.OK {
			t.Fatalf("Ground: %d, %d", errno, at)
		}
		g, errno, _ = prior.Build(s, g)
		if errno != api.OK {
			t.Fatalf("Build: %d", errno)
		}
		number := map[string]int{}
		for lit := range g.Lits {
			name, _ := ground.Lit(s, g, lit)
			number[name] = lit
		}
		var facts []int
		insert(&facts, number["old(anna)"])
		insert(&facts, number["rich(anna)"])
		l := derived(t, g.Theory, facts, number[c.plus], api.PlusPartial)
		if last := l[len(l)-1]; last.How != api.HowRule || len(last.Choices) != 1 || last.Choices[0].Rule != last.Rule {
			t.Errorf("%s: %+v", c.plus, l)
		}
		l = derived(t, g.Theory, facts, number[c.minus], api.MinusPartial)
		if last := l[len(l)-1]; last.How != api.HowBeaten || len(last.Choices) > 0 {
			t.Errorf("%s: %+v", c.minus, l)
		}
		wantDeriveRefused(t, g.Theory, facts, number[c.minus], api.PlusPartial, api.ErrNone)
	}
	x := from("1; 0 => 0")
	if l, errno := derive.All(x, nil); errno != api.OK || !sameSteps(l, steps("-D 0 none")) {
		t.Errorf("P20.2: All: %+v, %d", l, errno)
	}
}
