package prior_test

import (
	"testing"

	"lexprior/api"
)

const threeRules = `amount h : 1, 2, 3. source high rank 3. source low rank 2.
rule a of high at 2001-01-01 : => h = 1. rule b of low at 2009-01-01 : => h = 2. rule c of low at 2010-01-01 : => h = 3. `

// TestExamples: those of the chapter.
func TestExamples(t *testing.T) {
	const a, b, c = 0, 1, 2
	s := parsed(t, threeRules)
	for _, one := range []struct {
		over, under int
	}{{a, b}, {a, c}, {c, b}} {
		wantPrevails(t, s, one.over, one.under, true, api.OK)
		wantPrevails(t, s, one.under, one.over, false, api.OK)
	}
	wantBuilt(t, s, grounded(t, s), [][]int{{b, c}, {}, {b}})
	s = parsed(t, threeRules+"exception b to a.")
	wantPrevails(t, s, b, a, true, api.OK)
	wantPrevails(t, s, a, b, false, api.OK)
	if cycle := wantRound(t, s, grounded(t, s)); len(cycle) != 3 {
		t.Errorf("P13.2: the cycle %d of all three rules", cycle)
	}
	if cycle := wantCycle(t, [][]int{{1}, {2}, {0}}); len(cycle) != 3 {
		t.Errorf("P13.3: the cycle %d of ((1), (2), (0))", cycle)
	}
	wantCycle(t, [][]int{{0}})
	wantOrder(t, [][]int{{}, {0}}, 1, 0)
}

// TestWholeExamples: the first two of the document, as far as rules beat rules.
func TestWholeExamples(t *testing.T) {
	text := `kind person. member anna : person. pred old(person). pred rich(person). amount help(person) : 10, 20.
		source act rank 2. source decree rank 1.
		rule a of act at 2001-01-01 : old(X) => help(X) = 20. rule b of decree at 2009-01-01 : rich(X) => help(X) = 10. `
	s := parsed(t, text)
	wantBuilt(t, s, grounded(t, s), [][]int{{1}, {}})
	s = parsed(t, text+"exception b to a.")
	wantBuilt(t, s, grounded(t, s), [][]int{{}, {0}})
}
