package fast_test

import (
	"testing"

	"lexprior/api"
	"lexprior/fast"
	"lexprior/ground"
	"lexprior/prior"
	"lexprior/syntax"
)

// TestExamples: those of the chapter.
func TestExamples(t *testing.T) {
	wantAllOf(t, from("2; => 0; => 1; 0 # 1"), nil, marks(lost, lost))
	x := from("2; => 0; => 1; 0 # 1; 0 > 1")
	wantAllOf(t, x, nil, marks(won, lost))
	if list, count, errno := fast.Counted(x, nil); errno != api.OK || len(list) != 2 || count.Queued != 4 || count.Updates > 16 {
		t.Errorf("P16.2: Counted: %d, %d, %d, want Queued 4", list, count, errno)
	}
	wantAllOf(t, from("1; 0 => 0"), nil, marks(open))
}

// concluded: of a statute's text, the marks of literals by their texts.
func concluded(t *testing.T, text string, facts ...string) map[string]api.Marks {
	t.Helper()
	s, errno, at := syntax.Parse(text)
	if errno != api.OK {
		t.Fatalf("Parse: %d, %d", errno, at)
	}
	g, errno, at := ground.Ground(s)
	if errno != api.OK {
		t.Fatalf("Ground: %d, %d", errno, at)
	}
	g, errno, _ = prior.Build(s, g)
	if errno != api.OK {
		t.Fatalf("Build: %d", errno)
	}
	number := map[string]int{}
	for lit := range g.Lits {
		name, _ := ground.Lit(s, g, lit)
		number[name] = lit
	}
	var given []int
	for _, fact := range facts {
		lit, there := number[fact]
		if !there {
			t.Fatalf("there is no %s", fact)
		}
		insert(&given, lit)
	}
	list := ran(t, g.Theory, given)
	wantRun(t, g.Theory, given, list)
	all := map[string]api.Marks{}
	for name, lit := range number {
		all[name] = list[lit]
	}
	return all
}

// TestStatutes: the document's own examples, from their texts on.
func TestStatutes(t *testing.T) {
	const text = `kind person. member anna, ben : person. pred old(person). pred rich(person). amount help(person) : 10, 20.
source act rank 2. source decree rank 1.
rule a of act at 2001-01-01 : old(X) => help(X) = 20. rule b of decree at 2009-01-01 : rich(X) => help(X) = 10.`
	facts := []string{"old(anna)", "rich(anna)", "rich(ben)"}
	want := func(all map[string]api.Marks, lit, said string) {
		t.Helper()
		got, there := all[lit]
		if !there || got != marks(said)[0] {
			t.Errorf("of %s: %d, %t, want %s", lit, got, there, said)
		}
	}
	all := concluded(t, text, facts...)
	want(all, "help(anna) = 20", won)
	want(all, "help(anna) = 10", lost)
	want(all, "help(ben) = 20", lost)
	want(all, "help(ben) = 10", won)
	want(all, "old(anna)", held)
	want(all, "old(ben)", lost)

	all = concluded(t, text+" exception b to a.", facts...)
	want(all, "help(anna) = 20", lost)
	want(all, "help(anna) = 10", won)
	want(all, "help(ben) = 10", won)

	all = concluded(t, "pred p. source a rank 1. rule p of a at 2001-01-01 : p => p.")
	want(all, "p", open)
}
