package ground_test

import (
	"slices"
	"testing"

	"lexprior/api"
	"lexprior/ground"
	"lexprior/literals"
	"lexprior/resolve"
)

func rising(list []int, below int) bool {
	last := -1
	for _, n := range list {
		if n <= last || n >= below {
			return false
		}
		last = n
	}
	return true
}

// faultOf: what chapter 12 says of a theory that may not be.
func faultOf(t api.Theory) string {
	if t.Lits < 0 || t.Lits > 4096 || len(t.Foes) != t.Lits {
		return "literals"
	}
	for l, list := range t.Foes {
		if !rising(list, t.Lits) || len(list) > 64 || slices.Contains(list, l) {
			return "foes"
		}
		for _, foe := range list {
			if !slices.Contains(t.Foes[foe], l) {
				return "foes that are not returned"
			}
		}
	}
	if len(t.Rules) > 4096 {
		return "rules"
	}
	for _, r := range t.Rules {
		if r.Kind < api.Strict || r.Kind > api.Defeater || !rising([]int{r.Head}, t.Lits) || !rising(r.Body, t.Lits) || len(r.Body) > 16 {
			return "a rule"
		}
	}
	if modelPairs(t) > 65536 {
		return "pairs"
	}
	if len(t.Beats) != len(t.Rules) || slices.ContainsFunc(t.Beats, func(list []int) bool { return len(list) > 0 }) {
		return "beats"
	}
	return ""
}

// wantTheory: it may be, and of each schema there are as many rules as assignments, one behind the other.
func wantTheory(t testing.TB, s api.Statute, g api.Ground) {
	t.Helper()
	if fault := faultOf(g.Theory); fault != "" {
		t.Errorf("P11.4: of %.2000v the theory may not be: %s", s, fault)
	}
	var want []int
	for schema := range s.Rules {
		assignments, errno := ground.Assignments(s, schema)
		if errno != api.OK {
			t.Errorf("P11.4: Assignments(%.2000v, %d): %d", s, schema, errno)
		}
		want = append(want, slices.Repeat([]int{schema}, len(assignments))...)
	}
	if !slices.Equal(g.Schema, want) || len(g.Theory.Rules) != len(want) || g.Theory.Lits != len(g.Lits) {
		t.Errorf("P11.4: of %.2000v: %d rules of the schemas %d, want those of %d", s, len(g.Theory.Rules), g.Schema, want)
	}
}

// wantFoesThere: of each literal of a rule all that are in conflict with it are among the literals, and are its foes.
func wantFoesThere(t testing.TB, s api.Statute, g api.Ground) int {
	t.Helper()
	inRules := map[int]bool{}
	for _, r := range g.Theory.Rules {
		for _, place := range append([]int{r.Head}, r.Body...) {
			inRules[place] = true
		}
	}
	checked := 0
	for place := range inRules {
		if g.Lits[place].Guard > 0 {
			continue
		}
		for _, foe := range modelFoes(s, g.Lits[place]) {
			n, there := literals.Find(g.Lits, foe)
			if !there || !slices.Contains(g.Theory.Foes[place], n) {
				t.Errorf("P11.6: of %.2000v: %+v is no foe of %+v", s, foe, g.Lits[place])
			}
			checked++
		}
	}
	return checked
}

func TestTheories(t *testing.T) {
	t.Parallel()
	m := newMaker(121)
	seen, foes := 0, 0
	for range 1500 {
		s := m.statute(8, 5, pick(m, 1, 2, 3))
		g, errno, _ := ground.Ground(s)
		if errno != api.OK {
			continue
		}
		wantTheory(t, s, g)
		foes += wantFoesThere(t, s, g)
		if t.Failed() {
			return
		}
		seen += len(g.Schema)
	}
	if seen < 10000 || foes < 10000 {
		t.Errorf("only %d rules and %d foes were seen", seen, foes)
	}
}

// TestMostFoes: an amount of 64 values has as many foes as there may be, and a class of 16 its own.
func TestMostFoes(t *testing.T) {
	s := parsed(t, "source act rank 1. pred a. amount pay : 1. "+ruleTexts("a => pay = 1", "=> pay = 64"))
	s.Preds[1].Values = nil
	for n := range api.MaxValues {
		s.Preds[1].Values = append(s.Preds[1].Values, api.Money(100*(n+1)))
	}
	class := []string{"a"}
	for n := range api.MaxInClass - 1 {
		class = append(class, "b"+digits(n))
		s.Preds = append(s.Preds, api.PredText{Name: class[n+1], Sort: api.SortPlain})
	}
	s.Classes = [][]string{class}
	g := grounded(t, s)
	wantTheory(t, s, g)
	if foes := wantFoesThere(t, s, g); foes != 64+64+16 || len(g.Lits) != 17+66 {
		t.Errorf("P11.6: %d foes of %d literals", foes, len(g.Lits))
	}
}

// TestSchemaBehind: leaves the rules ahead as they were.
func TestSchemaBehind(t *testing.T) {
	t.Parallel()
	m := newMaker(122)
	seen, moved := 0, 0
	for range 1500 {
		s := m.statute(7, 5, 2)
		if len(s.Rules) == 0 {
			continue
		}
		less := s
		less.Rules = s.Rules[:len(s.Rules)-1]
		g, errno, _ := ground.Ground(s)
		was, wasErrno, _ := ground.Ground(less)
		if errno != api.OK || wasErrno != api.OK {
			continue
		}
		many := len(was.Schema)
		want, got := ruleLines(t, less, was), ruleLines(t, s, g)[:many]
		if !slices.Equal(got, want) || !slices.Equal(g.Schema[:many], was.Schema) {
			t.Fatalf("P11.5: of %+v the rules became %q, were %q", s, got, want)
		}
		seen += many
		if !same(g.Theory.Rules[:many], was.Theory.Rules) {
			moved++
		}
	}
	if seen < 5000 || moved < 200 {
		t.Errorf("only %d rules were seen, %d times with other numbers", seen, moved)
	}
}

// TestMemberMore: of a kind that no schema's variable has; wherever it stands, since the others keep their order.
func TestMemberMore(t *testing.T) {
	t.Parallel()
	m := newMaker(123)
	seen := 0
	for range 1500 {
		s := m.statute(7, 5, 2)
		g, errno, _ := ground.Ground(s)
		if errno != api.OK {
			continue
		}
		used := map[int]bool{}
		for schema := range s.Rules {
			_, kinds, _ := resolve.Vars(s, schema)
			for _, kind := range kinds {
				used[kind] = true
			}
		}
		more := exact(s)
		more.Kinds = append(more.Kinds, "brand_new")
		for kind, name := range more.Kinds {
			if used[kind] {
				continue
			}
			at := pick(m, len(s.Members), m.chance.Intn(len(s.Members)+1))
			more.Members = slices.Insert(slices.Clone(s.Members), at, api.MemberText{Name: "brand_new", Kind: name})
			want, got := ruleLines(t, s, g), ruleLines(t, more, grounded(t, more))
			if !slices.Equal(got, want) {
				t.Fatalf("P11.5: of %+v the rules became %q, were %q", more, got, want)
			}
			seen += len(want)
		}
	}
	if seen < 5000 {
		t.Errorf("only %d rules were seen", seen)
	}
}
