package ground_test

import (
	"slices"
	"strings"
	"testing"

	"lexprior/api"
	"lexprior/resolve"
)

// tally counts answers by their error, so that a test can tell that it saw enough of each.
type tally map[api.Errno]int

func (y tally) want(t testing.TB, what string, least int, all ...api.Errno) {
	t.Helper()
	for _, errno := range all {
		if y[errno] < least {
			t.Errorf("only %d times %s: %d", y[errno], what, errno)
		}
	}
}

// wantModel: of all schemas the assignments, and the ground, as the model says.
func wantModel(t testing.TB, s api.Statute) (api.Ground, api.Errno) {
	t.Helper()
	checked, _ := resolve.Check(s)
	for schema := range s.Rules {
		if checked != api.OK {
			wantAssignments(t, s, schema, nil, checked)
			continue
		}
		want, _, fit := modelAssignments(s, schema, 4096)
		errno := api.OK
		if !fit {
			errno = api.ErrGround
		}
		wantAssignments(t, s, schema, want, errno)
	}
	want, errno, place := modelGround(s)
	wantGround(t, s, want, errno, place)
	return want, errno
}

func TestSmallGroundsByChance(t *testing.T) {
	t.Parallel()
	m := newMaker(111)
	seen, rules, guarded, foes := tally{}, 0, 0, 0
	for range 2000 {
		s := m.small()
		g, errno := wantModel(t, s)
		if t.Failed() {
			return
		}
		seen[errno]++
		rules += len(g.Theory.Rules)
		guarded += len(g.Guards)
		for _, list := range g.Theory.Foes {
			foes += max(0, len(list)-1)
		}
	}
	seen.want(t, "Ground", 10, api.OK, api.ErrGround, api.ErrName, api.ErrArg, api.ErrArity, api.ErrFree)
	if seen[api.OK] < 1000 || rules < 50000 || guarded < 5000 || foes < 5000 {
		t.Errorf("only %d grounds with %d rules, %d guards and %d more foes than complements", seen[api.OK], rules, guarded, foes)
	}
}

func TestLargeGroundsByChance(t *testing.T) {
	t.Parallel()
	m := newMaker(112)
	seen := tally{}
	for range 200 {
		s := m.statute(64, 6, 2)
		// Only rules for few literals make more pairs than there may be.
		for n, r := range s.Rules {
			if m.oneIn(2) {
				s.Rules[n].Body = append(r.Body, api.PremiseText{Kind: api.PremiseLit, Lit: r.Head})
				s.Rules[n].Head = api.LitText{Pred: "q", Neg: m.oneIn(2)}
			}
		}
		_, errno := wantModel(t, s)
		if t.Failed() {
			return
		}
		seen[errno]++
	}
	seen.want(t, "Ground", 3, api.OK, api.ErrGround, api.ErrLits, api.ErrPairs)
}

// wantTexts: of each rule its text, put together of the schema's.
func wantTexts(t testing.TB, s api.Statute) int {
	t.Helper()
	g := grounded(t, s)
	var want, got []string
	for schema := range s.Rules {
		assignments, rules, _ := modelAssignments(s, schema, 4096)
		for n, r := range rules {
			want = append(want, modelLine(s, schema, assignments[n], r))
		}
	}
	texts := litTexts(t, s, g)
	lines := ruleLines(t, s, g)
	for n, r := range g.Theory.Rules {
		var body []string
		for _, place := range r.Body {
			body = append(body, texts[place])
		}
		slices.Sort(body)
		name, _, _ := strings.Cut(lines[n], ":")
		got = append(got, name+": "+strings.Join(body, "; ")+[...]string{"", " -> ", " => ", " ~> "}[r.Kind]+texts[r.Head])
	}
	if !slices.Equal(got, want) {
		t.Errorf("P11.3: of %.2000v the rules are %.2000q, want %.2000q", s, got, want)
	}
	return len(got)
}

func TestTextsByChance(t *testing.T) {
	t.Parallel()
	m := newMaker(113)
	rules := 0
	for range 2000 {
		s := m.statute(7, 4, 2)
		if _, errno, _ := modelGround(s); errno != api.OK {
			continue
		}
		rules += wantTexts(t, s)
		if t.Failed() {
			return
		}
	}
	if rules < 10000 {
		t.Errorf("only %d rules were seen", rules)
	}
}

func TestNumbersByChance(t *testing.T) {
	t.Parallel()
	m := newMaker(114)
	found := 0
	for range 600 {
		s := m.statute(6, 4, 2)
		g, errno, _ := modelGround(s)
		if errno != api.OK {
			continue
		}
		for n, l := range g.Lits {
			wantNumber(t, s, g, l, n, true)
			less := g
			less.Lits = slices.Delete(slices.Clone(g.Lits), n, n+1)
			wantNumber(t, s, less, l, 0, false)
			found++
		}
		if t.Failed() {
			return
		}
	}
	if found < 3000 {
		t.Errorf("only %d literals were asked for", found)
	}
}
