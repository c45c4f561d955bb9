package delta_test

import (
	"testing"

	"lexprior/api"
)

// script: calls, each with the facts and marks that are there behind it.
type script []struct {
	call  call
	facts []int
	marks []api.Marks
}

func (s script) want(t *testing.T, text string, first ...string) {
	t.Helper()
	e := newEngine(t, from(text))
	wantState(t, e, nil, marks(first...))
	for _, line := range s {
		wantDone(t, e, line.call, line.facts, line.marks)
	}
}

// TestFoesAsFacts: a literal and its foe at one time.
func TestFoesAsFacts(t *testing.T) {
	script{
		{add(0), lits(0), marks(held, lost, won)},
		{add(1), lits(0, 1), marks(held, held, won)},
		{drop(0), lits(1), marks(lost, held, lost)},
		{set(0, 1, 2), lits(0, 1, 2), marks(held, held, held)},
		{drop(1), lits(0, 2), marks(held, lost, held)},
		{set(1), lits(1), marks(lost, held, lost)},
		{set(), nil, marks(lost, lost, lost)},
	}.want(t, "3; 0 => 2; 0 # 1", lost, lost, lost)
}

// TestFoeAgainstRule: a fact against what a rule concludes; a strict rule stays beside it.
func TestFoeAgainstRule(t *testing.T) {
	script{
		{add(1), lits(1), marks(lost, held)},
		{add(0), lits(0, 1), marks(held, held)},
		{drop(1), lits(0), marks(held, lost)},
		{drop(0), nil, marks(won, lost)},
	}.want(t, "2; => 0; 0 # 1", won, lost)
	script{
		{add(1), lits(1), marks(held, held)},
		{drop(1), nil, marks(held, lost)},
	}.want(t, "2; -> 0; 0 # 1", held, lost)
}

// TestRings: of defeasible and of strict rules; a fact opens them, and when it goes they close again.
func TestRings(t *testing.T) {
	script{
		{add(1), lits(1), marks(won, held, won)},
		{add(2), lits(1, 2), marks(won, held, held)},
		{drop(1), lits(2), marks(won, won, held)},
		{drop(2), nil, marks(open, open, open)},
	}.want(t, "3; 0 => 1; 1 => 2; 2 => 0", open, open, open)
	script{
		{add(1), lits(1), marks(held, held, held)},
		{add(0), lits(0, 1), marks(held, held, held)},
		{drop(1), lits(0), marks(held, held, held)},
		{drop(0), nil, marks(none, none, none)},
	}.want(t, "3; 0 -> 1; 1 -> 2; 2 -> 0", none, none, none)
	script{
		{add(0), lits(0), marks(held)},
		{drop(0), nil, marks(open)},
	}.want(t, "1; 0 => 0", open)
	script{
		{add(0), lits(0), marks(held)},
		{drop(0), nil, marks(none)},
	}.want(t, "1; 0 -> 0", none)
	script{
		{add(1), lits(1), marks(loose, held, won)},
		{add(0), lits(0, 1), marks(held, held, won)},
		{set(1), lits(1), marks(loose, held, won)},
		{set(), nil, marks(none, lost, open)},
	}.want(t, "3; 0 -> 0; 1 => 0; 0 => 2", none, lost, open)
}

// TestRingAndFoe: a rule that speaks for its own foe.
func TestRingAndFoe(t *testing.T) {
	script{
		{add(2), lits(2), marks(open, lost, held)},
		{add(1), lits(1, 2), marks(lost, held, held)},
		{drop(2), lits(1), marks(lost, held, lost)},
		{set(0), lits(0), marks(held, lost, lost)},
	}.want(t, "3; 2 => 0; 0 => 1; 0 # 1", lost, lost, lost)
}

// TestBeats: the rule that prevails comes and goes by its body.
func TestBeats(t *testing.T) {
	script{
		{add(2), lits(2), marks(won, lost, held, lost)},
		{add(3), lits(2, 3), marks(lost, won, held, held)},
		{drop(2), lits(3), marks(lost, won, lost, held)},
		{drop(3), nil, marks(lost, lost, lost, lost)},
		{set(2, 3), lits(2, 3), marks(lost, won, held, held)},
	}.want(t, "4; 2 => 0; 3 => 1; 0 # 1; 1 > 0", lost, lost, lost, lost)
}

// TestTeams: two rules together beat the two against them, one alone does not.
func TestTeams(t *testing.T) {
	script{
		{set(2, 3, 4, 5), lits(2, 3, 4, 5), marks(won, lost, held, held, held, held)},
		{drop(3), lits(2, 4, 5), marks(lost, lost, held, lost, held, held)},
		{drop(5), lits(2, 4), marks(won, lost, held, lost, held, lost)},
		{drop(2), lits(4), marks(lost, won, lost, lost, held, lost)},
		{add(3), lits(3, 4), marks(lost, lost, lost, held, held, lost)},
	}.want(t, "6; 2 => 0; 3 => 0; 4 => 1; 5 => 1; 0 # 1; 0 > 2; 1 > 3", lost, lost, lost, lost, lost, lost)
}

// TestDefeaters: one brings nothing about, but keeps others from it, unless it is beaten.
func TestDefeaters(t *testing.T) {
	script{
		{add(2), lits(2), marks(lost, lost, held, lost)},
		{add(3), lits(2, 3), marks(won, lost, held, held)},
		{drop(2), lits(3), marks(won, lost, lost, held)},
		{drop(3), nil, marks(won, lost, lost, lost)},
	}.want(t, "4; => 0; 2 ~> 1; 3 => 0; 0 # 1; 2 > 1", won, lost, lost, lost)
}

// TestConcludedFacts: facts that a rule concludes too; what goes is just that they are facts.
func TestConcludedFacts(t *testing.T) {
	script{
		{add(1), lits(1), marks(lost, held, won)},
		{add(0), lits(0, 1), marks(held, held, won)},
		{drop(1), lits(0), marks(held, held, won)},
		{drop(0), nil, marks(lost, lost, lost)},
	}.want(t, "3; 0 -> 1; 1 => 2", lost, lost, lost)
	script{
		{add(1), lits(1), marks(won, held, won)},
		{add(2), lits(1, 2), marks(won, held, held)},
		{drop(1), lits(2), marks(won, won, held)},
		{drop(2), nil, marks(won, won, won)},
	}.want(t, "3; => 0; 0 => 1; 1 => 2", won, won, won)
}

// TestUnchanged: changes of which no mark tells, or just the fact's own.
func TestUnchanged(t *testing.T) {
	script{
		{add(0), lits(0), marks(held, held, lost, lost)},
		{add(1), lits(0, 1), marks(held, held, lost, lost)},
		{add(2), lits(0, 1, 2), marks(held, held, held, lost)},
		{drop(0), lits(1, 2), marks(held, held, held, lost)},
		{set(2), lits(2), marks(held, held, held, lost)},
		{set(), nil, marks(held, held, lost, lost)},
	}.want(t, "4; -> 0; 0 -> 1; 2 ~> 3; 0 2 3 ~> 1", held, held, lost, lost)
}

// outsiders: literals 0 to 5 have all marks that there are, whatever the others are; behind them there is room.
const outsiders = "; -> 0; => 1; 3 => 3; 4 -> 4; 5 -> 5; => 5; "

// TestOutside: a rule in the cone hangs on literals outside, of each of the marks, and of two at one time; of each kind.
func TestOutside(t *testing.T) {
	outside := []string{held, won, lost, open, none, loose}
	for _, arrow := range []string{"->", "=>", "~>"} {
		for a := range outside {
			for b := range outside {
				text := "9" + outsiders + told(a) + " 6 " + arrow + " 7; " + told(b) + " 7 " + arrow + " 8"
				if a != b {
					text = "9" + outsiders + told(min(a, b)) + " " + told(max(a, b)) + " 6 " + arrow + " 7; 7 => 8"
				}
				p := newPair(t, from(text))
				if got := p.engine.Marks()[:6]; told(got) != told(marks(outside...)) {
					t.Fatalf("%s: the literals outside have %v", text, got)
				}
				for _, c := range []call{add(6), add(8), drop(6), add(7), drop(8), drop(7)} {
					p.step(t, c)
				}
				wantTouched(t, p.engine, 7, 8)
			}
		}
	}
}

// TestOutsideAgainst: the same of rules against each other, of which one beats the other or none does.
func TestOutsideAgainst(t *testing.T) {
	for _, arrows := range [][2]string{{"=>", "=>"}, {"=>", "~>"}, {"->", "=>"}, {"->", "->"}, {"~>", "->"}} {
		for _, beats := range []string{"", "; 6 > 7", "; 7 > 6"} {
			for a := range 6 {
				for b := range 6 {
					text := "10" + outsiders + told(a) + " 6 " + arrows[0] + " 7; " + told(b) + " " + arrows[1] + " 8; 7 # 8; 8 => 9" + beats
					p := newPair(t, from(text))
					for _, c := range []call{add(6), add(8), drop(8), add(7), drop(6), drop(7), set(6, 9), set(9)} {
						p.step(t, c)
					}
				}
			}
		}
	}
}
