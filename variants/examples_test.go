package variants_test

import (
	"testing"

	"lexprior/api"
	"lexprior/ground"
	"lexprior/prior"
	"lexprior/syntax"
)

// TestExample: that of the chapter.
func TestExample(t *testing.T) {
	x := from("4; => 0; => 1; 1 => 2; => 3; 0 # 1; 2 # 3")
	wantDefeasible(t, x, nil, marks(lost, lost, lost, won))
	wantLogics(t, x, nil, marks(lost, lost, lost, lost), marks(won, won, won, won))
}

// TestStatute: from a text on: two sources of one rank contradict each other about who is a tenant.
func TestStatute(t *testing.T) {
	const text = `pred tenant. pred lodger. pred help. class tenant, lodger. source act rank 2. source decree rank 2.
rule a of act at 2001-01-01 : => tenant. rule b of decree at 2001-01-01 : => lodger.
rule c of act at 2001-01-01 : lodger => -help. rule d of act at 2001-01-01 : => help.`
	s, errno, at := syntax.Parse(text)
	if errno != api.OK {
		t.Fatalf("Parse: %d, %d", errno, at)
	}
	g, errno, at := ground.Ground(s)
	if errno != api.OK {
		t.Fatalf("Ground: %d, %d", errno, at)
	}
	g, errno, _ = prior.Build(s, g)
	if errno != api.OK {
		t.Fatalf("Build: %d", errno)
	}
	a := asked(t, g.Theory, nil)
	wantLogics(t, g.Theory, nil, a.propagated, a.supported)
	for lit := range g.Lits {
		name, _ := ground.Lit(s, g, lit)
		want, there := map[string][]api.Marks{
			"tenant": marks(lost, lost, won), "lodger": marks(lost, lost, won), "help": marks(lost, won, won), "-help": marks(lost, lost, won),
			"-tenant": marks(lost, lost, lost), "-lodger": marks(lost, lost, lost),
		}[name]
		if !there || a.propagated[lit] != want[0] || a.defeasible[lit] != want[1] || a.supported[lit] != want[2] {
			t.Errorf("%s has %d, %d, %d, want %d", name, a.propagated[lit], a.defeasible[lit], a.supported[lit], want)
		}
	}
	if len(g.Lits) != 6 {
		t.Errorf("there are %d literals", len(g.Lits))
	}
}
