package derive_test

import (
	"math/bits"
	"slices"
	"testing"

	"lexprior/api"
	"lexprior/derive"
	"lexprior/naive"
	"lexprior/theory"
)

func solved(t testing.TB, x api.Theory, facts []int) []api.Marks {
	t.Helper()
	list, errno := naive.Solve(x, facts)
	if errno != api.OK {
		t.Fatalf("Solve(%s, %v): %d", told(x), facts, errno)
	}
	return list
}

// wantJust: derivations of just the tags that the conditions give, and All of these.
func wantJust(t testing.TB, x api.Theory, facts []int, seen tally) {
	t.Helper()
	list := solved(t, x, facts)
	total := 0
	for lit, said := range list {
		for _, tag := range tags {
			if said>>(tag-1)&1 == 0 {
				wantDeriveRefused(t, x, facts, lit, tag, api.ErrNone)
				continue
			}
			l := derived(t, x, facts, lit, tag)
			wantLean(t, x, facts, l, l)
			for _, s := range l {
				seen[rowOf(s)]++
				for _, c := range s.Choices {
					if c.Rule != -1 {
						seen["a rule that beats"]++
					}
				}
			}
			seen["more than 6 steps"] += len(l) / 7
		}
		total += bits.OnesCount8(uint8(said))
	}
	all := wantAll(t, x, facts, list)
	if len(all) != total || total > 2*x.Lits {
		t.Errorf("P20.7: of %s and %v: All has %d steps, for %d tags", told(x), facts, len(all), total)
	}
}

// rowOf: the row's name.
func rowOf(s api.Step) string {
	return []string{"?", "+D", "-D", "+d", "-d"}[s.Tag] + []string{"?", " fact", " rule", " none", " strict", " beaten"}[s.How]
}

func rowNames() []string {
	return []string{"+D fact", "+D rule", "-D none", "+d strict", "+d rule", "-d none", "-d strict", "-d beaten"}
}

// TestJustWhatHolds: P20.2, P20.5, P20.7, P20.8, and G1.
func TestJustWhatHolds(t *testing.T) {
	t.Parallel()
	m := newMaker(211)
	seen := tally{}
	for range 3000 {
		x := m.any()
		wantJust(t, x, m.some(pick(m, 0, 2, 5), x.Lits), seen)
		if t.Failed() {
			return
		}
	}
	seen.want(t, 300, append(rowNames(), "a rule that beats", "more than 6 steps")...)
}

func TestLargerByChance(t *testing.T) {
	t.Parallel()
	m := newMaker(212)
	seen := tally{}
	for range 12 {
		x := pick(m, m.theory, m.row, m.row)(80, pick(m, 60, 100, 160))
		wantJust(t, x, m.some(20, x.Lits), seen)
		if t.Failed() {
			return
		}
	}
	seen.want(t, 20, rowNames()...)
}

// TestSmallWhole: all theories of two foes with three rules that have no body, or the foe or their own head in it, with the first above the others and without.
func TestSmallWhole(t *testing.T) {
	t.Parallel()
	var all []api.Rule
	for _, kind := range []api.Arrow{api.Strict, api.Defeasible, api.Defeater} {
		for _, head := range lits(0, 1) {
			for _, body := range [][]int{nil, {0}, {1}} {
				all = append(all, rule(kind, head, body...))
			}
		}
	}
	for n := range len(all) * len(all) * len(all) * 2 {
		a, b, c := all[n/2%len(all)], all[n/2/len(all)%len(all)], all[n/2/len(all)/len(all)]
		x := plain(2, a, b, c)
		enemies(&x, 0, 1)
		for r := 1; n%2 == 1 && r < 3; r++ {
			if x.Rules[r].Head != a.Head {
				insert(&x.Beats[0], r)
			}
		}
		for _, facts := range [][]int{nil, {0}, {0, 1}} {
			wantJust(t, x, facts, tally{})
		}
		if t.Failed() {
			return
		}
	}
}

// TestStepsByChance: of the form and not, from what is ahead by chance: as the model says, and as Needs does.
func TestStepsByChance(t *testing.T) {
	t.Parallel()
	m := newMaker(213)
	seen := tally{}
	for range 30000 {
		x := m.any()
		facts := m.some(4, x.Lits)
		asked := model{theory: x, facts: facts}
		s, there := m.step(x)
		if !there {
			continue
		}
		for range m.chance.Intn(3) {
			s = m.spoilStep(x, s)
		}
		needs := asked.needs(s)
		// Mostly what is needed, and often one of it less; and what is not.
		ahead := saying(needs...)
		if len(ahead) > 0 && m.oneIn(3) {
			at := m.chance.Intn(len(ahead))
			ahead = slices.Delete(ahead, at, at+1)
		}
		for range m.chance.Intn(4) {
			ahead = append(ahead, api.Step{Lit: m.odd(x.Lits), Tag: api.Tag(m.odd(5))})
		}
		m.chance.Shuffle(len(ahead), func(a, b int) { ahead[a], ahead[b] = ahead[b], ahead[a] })
		asked.ahead = ahead
		why := asked.fault(s)
		wantFollows(t, x, facts, ahead, s, why == "")
		if _, form := asked.form(s); form != "" {
			wantNeedsRefused(t, x, s, api.ErrStep)
		} else {
			wantNeeds(t, x, s, needs...)
		}
		seen[why]++
		if why == "" {
			seen[rowOf(s)]++
		}
		if t.Failed() {
			return
		}
	}
	seen.want(t, 80, append(faults(), rowNames()...)...)
}

// TestNeedsAreWhatIsNeeded: from just these a step follows, from all but one of them it does not.
func TestNeedsAreWhatIsNeeded(t *testing.T) {
	t.Parallel()
	m := newMaker(214)
	many := 0
	for range 15000 {
		x := m.any()
		s, there := m.step(x)
		if !there {
			continue
		}
		needs, errno := derive.Needs(x, s)
		if errno != api.OK {
			t.Fatalf("P20.3: Needs(%+v, %+v): %d", x, s, errno)
		}
		var facts []int
		if s.How == api.HowFact {
			facts = lits(s.Lit)
		}
		wantFollows(t, x, facts, saying(needs...), s, true)
		for n := range needs {
			others := slices.DeleteFunc(everything(x.Lits), func(a api.Step) bool { return slices.Contains(pairs([]api.Step{a}), needs[n]) })
			wantFollows(t, x, facts, others, s, false)
			many++
		}
		if t.Failed() {
			return
		}
	}
	if many < 2000 {
		t.Errorf("only %d needs were seen", many)
	}
}

// TestDerivationsByChance: lists that chance finds, of steps by all ways: checked; lean as the model says; of what holds; no beginning is none; and a step that is spoilt is told where the model does.
func TestDerivationsByChance(t *testing.T) {
	t.Parallel()
	m := newMaker(215)
	seen := tally{}
	for range 1500 {
		x := m.any()
		facts := m.some(pick(m, 0, 2, 5), x.Lits)
		l := m.derivation(x, facts, 120)
		wantChecked(t, x, facts, l)
		wantChecked(t, x, facts, l[:m.chance.Intn(len(l)+1)])
		list := solved(t, x, facts)
		for _, s := range l {
			if list[s.Lit]>>(s.Tag-1)&1 == 0 {
				t.Errorf("P20.5: of %+v and %v: %+v follows, but it does not hold", x, facts, s)
			}
			seen[rowOf(s)]++
		}
		if len(l) > 0 {
			wantLeanByModel(t, x, facts, l, seen)
			wrong := slices.Clone(l)
			for range 1 + m.chance.Intn(2) {
				at := m.chance.Intn(len(wrong))
				wrong[at] = m.spoilStep(x, wrong[at])
			}
			wantCheckByModel(t, x, facts, wrong, seen)
			m.chance.Shuffle(len(wrong), func(a, b int) { wrong[a], wrong[b] = wrong[b], wrong[a] })
			wantCheckByModel(t, x, facts, wrong, seen)
		}
		if t.Failed() {
			return
		}
	}
	seen.want(t, 100, append(rowNames(), "lean: less", "a fault")...)
	seen.want(t, 20, "lean: all", "spoilt, and no fault", "lean: the last was said ahead")
}

func wantLeanByModel(t testing.TB, x api.Theory, facts []int, l []api.Step, seen tally) {
	t.Helper()
	want := model{theory: x, facts: facts}.lean(l)
	wantLean(t, x, facts, l, want)
	wantLean(t, x, facts, want, want)
	if why := notLean(x, want); why != "" || !slices.Equal(pairs(want[len(want)-1:]), pairs(l[len(l)-1:])) {
		t.Errorf("P20.4: of %+v and %v: %+v for %+v: %s", x, facts, want, l, why)
	}
	switch {
	case len(want) == len(l):
		seen["lean: all"]++
	case !derive.Same(want[len(want)-1], l[len(l)-1]):
		seen["lean: the last was said ahead"]++
	default:
		seen["lean: less"]++
	}
}

func wantCheckByModel(t testing.TB, x api.Theory, facts []int, l []api.Step, seen tally) {
	t.Helper()
	errno, at := model{theory: x, facts: facts}.check(l)
	if errno != api.OK {
		wantFault(t, x, facts, l, errno, at)
		seen["a fault"]++
		return
	}
	wantChecked(t, x, facts, l)
	seen["spoilt, and no fault"]++
}

// TestStepsPutIn: a step that follows where it is put in leaves a derivation one, and each beginning of one is one (P20.6).
func TestStepsPutIn(t *testing.T) {
	t.Parallel()
	m := newMaker(216)
	put := 0
	for range 600 {
		x := m.any()
		facts := m.some(4, x.Lits)
		l, errno := derive.All(x, facts)
		if errno != api.OK {
			t.Fatalf("P20.2: All(%+v, %v): %d", x, facts, errno)
		}
		for range 40 {
			s, there := m.step(x)
			if !there {
				continue
			}
			at := m.chance.Intn(len(l) + 1)
			if follows, _ := derive.Follows(x, facts, l[:at], s); follows {
				l = slices.Insert(l, at, s)
				put++
			}
			wantChecked(t, x, facts, l)
		}
		for n := range l {
			wantChecked(t, x, facts, l[:n])
			wantLeanByModel(t, x, facts, l[:n+1], tally{})
		}
		if t.Failed() {
			return
		}
	}
	if put < 1000 {
		t.Errorf("only %d steps were put in", put)
	}
}

// TestSpoiltByChance: the theory's fault goes ahead of the facts', that of the literal, the tag's, and that it has not the tag.
func TestSpoiltByChance(t *testing.T) {
	t.Parallel()
	m := newMaker(217)
	seen := tally{}
	for range 10000 {
		x := m.theory(6, 8)
		facts, lit, tag := m.some(4, x.Lits), m.odd(x.Lits), api.Tag(pick(m, 1, 2, 3, 4, m.odd(5)))
		if m.oneIn(2) {
			m.spoil(&x)
		}
		if m.oneIn(3) {
			facts = m.change(facts, x.Lits)
		}
		errno, _ := theory.Check(x)
		if errno == api.OK {
			errno = theory.CheckFacts(x, facts)
		}
		if errno != api.OK {
			wantAllRefused(t, x, facts, errno)
			wantFault(t, x, facts, nil, errno, 0)
			wantDeriveRefused(t, x, facts, lit, tag, errno)
		} else {
			errno = wantDeriveByNaive(t, x, facts, lit, tag)
		}
		seen[told(errno)]++
		if t.Failed() {
			return
		}
	}
	for _, errno := range []api.Errno{api.OK, api.ErrLits, api.ErrFoe, api.ErrRule, api.ErrBeat, api.ErrFact, api.ErrLit, api.ErrArg, api.ErrNone} {
		seen.want(t, 80, told(errno))
	}
}

func wantDeriveByNaive(t testing.TB, x api.Theory, facts []int, lit int, tag api.Tag) api.Errno {
	t.Helper()
	var errno api.Errno
	switch {
	case lit < 0 || lit >= x.Lits:
		errno = api.ErrLit
	case !slices.Contains(tags, tag):
		errno = api.ErrArg
	case solved(t, x, facts)[lit]>>(tag-1)&1 == 0:
		errno = api.ErrNone
	default:
		derived(t, x, facts, lit, tag)
		return api.OK
	}
	wantDeriveRefused(t, x, facts, lit, tag, errno)
	return errno
}
