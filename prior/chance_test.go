package prior_test

import (
	"testing"

	"lexprior/api"
	"lexprior/prior"
)

// tally counts answers by their error, so that a test can tell that it saw enough of each.
type tally map[api.Errno]int

func (y tally) want(t testing.TB, least int, all ...api.Errno) {
	t.Helper()
	for _, errno := range all {
		if y[errno] < least {
			t.Errorf("only %d times %d", y[errno], errno)
		}
	}
}

func TestPrevailsByChance(t *testing.T) {
	t.Parallel()
	m := newMaker(131)
	yes, no := 0, 0
	for range 2000 {
		s := m.statute(1+m.chance.Intn(7), m.chance.Intn(12))
		for a := range s.Rules {
			for b := range s.Rules {
				want := modelPrevails(s, a, b)
				wantPrevails(t, s, a, b, want, api.OK)
				if want {
					yes++
				} else {
					no++
				}
			}
		}
		if t.Failed() {
			return
		}
	}
	if yes < 10000 || no < 10000 {
		t.Errorf("only %d prevail, and %d do not", yes, no)
	}
}

// wantModel: Build answers what the model does, and its error is told.
func wantModel(t testing.TB, s api.Statute, g api.Ground) api.Errno {
	t.Helper()
	if errno := modelFault(s, g); errno != api.OK {
		wantRefused(t, "by chance", s, g, errno)
		return errno
	}
	beats := modelBeats(s, g)
	if hasCycle(beats) {
		wantRound(t, s, g)
		return api.ErrPriorityCycle
	}
	wantBuilt(t, s, g, beats)
	return api.OK
}

// TestBuildByChance: statutes and grounds that have nothing to do with each other, now and then spoilt.
func TestBuildByChance(t *testing.T) {
	t.Parallel()
	m := newMaker(132)
	seen := tally{}
	for range 20000 {
		schemas := 1 + m.chance.Intn(6)
		s, g := m.statute(schemas, pick(m, 0, 2, 5)), m.ground(7, 8, schemas)
		if m.oneIn(8) {
			m.spoilStatute(&s)
		}
		for range pick(m, 0, 0, 1, 2) {
			m.spoilGround(&g)
		}
		seen[wantModel(t, s, g)]++
		if t.Failed() {
			return
		}
	}
	seen.want(t, 100, api.OK, api.ErrPriorityCycle, api.ErrArg, api.ErrLits, api.ErrFoe, api.ErrRule, api.ErrSource, api.ErrDate, api.ErrTwice, api.ErrRange, api.ErrName)
}

// TestTextsByChance: read, grounded and built.
func TestTextsByChance(t *testing.T) {
	t.Parallel()
	m := newMaker(133)
	seen := tally{}
	for range 1500 {
		s := parsed(t, m.text(1+m.chance.Intn(12), m.chance.Intn(20)))
		seen[wantModel(t, s, grounded(t, s))]++
		if t.Failed() {
			return
		}
	}
	seen.want(t, 100, api.OK, api.ErrPriorityCycle)
}

func TestListsByChance(t *testing.T) {
	t.Parallel()
	m := newMaker(134)
	seen := map[bool]int{}
	for range 20000 {
		beats := m.lists(9, pick(m, 1, 2, 4))
		if m.oneIn(3) {
			beats = m.ordered(12, pick(m, 2, 4, 8))
		}
		is := hasCycle(beats)
		if is {
			wantCycle(t, beats)
		} else {
			wantOrder(t, beats, modelOrder(beats)...)
		}
		if t.Failed() {
			return
		}
		seen[is]++
	}
	if seen[true] < 5000 || seen[false] < 5000 {
		t.Errorf("only %d have a cycle, and %d have none", seen[true], seen[false])
	}
}

func TestBeatsByChance(t *testing.T) {
	t.Parallel()
	m := newMaker(135)
	for range 2000 {
		x := api.Theory{Beats: m.lists(6, 4), Rules: make([]api.Rule, m.chance.Intn(6))}
		for range 20 {
			a, b := m.odd(6), m.odd(6)
			want := false
			if isPlace(a, len(x.Beats)) {
				for _, n := range x.Beats[a] {
					want = want || n == b
				}
			}
			if got := prior.Beats(x, a, b); got != want {
				t.Fatalf("P13.3: Beats(%+v, %d, %d): %t", x, a, b, got)
			}
		}
	}
}
