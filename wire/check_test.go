package wire_test

import (
	"slices"
	"testing"

	"lexprior/api"
)

// change is something about a step that becomes another thing, and whether it may be so.
type change struct {
	what string
	may  bool
	turn func(s *api.Step)
}

// changes: each part of a step at its edges and far outside.
func changes() []change {
	var all []change
	number := func(what string, least, most int, set func(s *api.Step, n int)) {
		for _, n := range append(outside(), -1, 0, 1, 2, 4, 5, 6, 15, 16, 4095, 4096, least-1, least, most, most+1, least+128, least+256, least+1<<32) {
			all = append(all, change{what + " " + told(n), least <= n && n <= most, func(s *api.Step) { set(s, n) }})
		}
	}
	number("Tag", 1, 4, func(s *api.Step, n int) { s.Tag = api.Tag(n) })
	number("How", 1, 5, func(s *api.Step, n int) { s.How = api.How(n) })
	number("Lit", 0, 4095, func(s *api.Step, n int) { s.Lit = n })
	number("Rule", -1, 4095, func(s *api.Step, n int) { s.Rule = n })
	for _, at := range []int{0, 1, 2} {
		choice := func(s *api.Step) *api.Choice {
			s.Choices = []api.Choice{{Place: 0, Rule: -1}, {Place: 15, Rule: 4095}, {Place: -1, Rule: 0}}
			return &s.Choices[at]
		}
		number("Place of choice "+told(at), -1, 15, func(s *api.Step, n int) { choice(s).Place = n })
		number("Rule of choice "+told(at), -1, 4095, func(s *api.Step, n int) { choice(s).Rule = n })
	}
	for _, more := range []int{-1, 0, 1, 2, 4096, 65536 - 4096, 65536 - 4095} {
		all = append(all, change{told(4096+more) + " choices", more <= 0, func(s *api.Step) { s.Choices = longest(more) }})
	}
	all = append(all, change{"no choices", true, func(s *api.Step) { s.Choices = nil }}, change{"empty choices", true, func(s *api.Step) { s.Choices = []api.Choice{} }})
	return all
}

// faults: the changes that may not be.
func faults() []change {
	return slices.DeleteFunc(changes(), func(c change) bool { return c.may })
}

// TestEdges: each change alone, in each step of a list.
func TestEdges(t *testing.T) {
	for _, c := range changes() {
		for at := range house() {
			l := house()
			c.turn(&l[at])
			if c.may {
				wantTaken(t, c.what, l, modelBytes(l))
			} else {
				wantRefused(t, c.what, l, api.ErrStep, at)
			}
		}
	}
}

// TestAllRows: each Tag with each How, whether the table has such a row or not; with and without Rule and Choices.
func TestAllRows(t *testing.T) {
	for tag := api.Tag(-1); tag <= 7; tag++ {
		for how := api.How(-1); how <= 7; how++ {
			for _, rule := range []int{-1, 0, 4095} {
				for _, choices := range [][]api.Choice{nil, {{Place: -1, Rule: -1}}, {{Place: 3, Rule: 3}, {Place: 3, Rule: 3}}} {
					l := []api.Step{{Tag: tag, How: how, Rule: rule, Choices: choices}}
					if 1 <= tag && tag <= 4 && 1 <= how && how <= 5 {
						wantTaken(t, "a row", l, modelBytes(l))
					} else {
						wantRefused(t, "no row", l, api.ErrStep, 0)
					}
				}
			}
		}
	}
}

// TestTwoFaultsInOneStep: it is told once.
func TestTwoFaultsInOneStep(t *testing.T) {
	for _, a := range faults() {
		for _, b := range faults() {
			l := house()
			a.turn(&l[2])
			b.turn(&l[2])
			wantRefused(t, a.what+", "+b.what, l, api.ErrStep, 2)
		}
	}
}

// TestTwoFaultsInTwoSteps: the first is told, whatever they are.
func TestTwoFaultsInTwoSteps(t *testing.T) {
	for _, a := range faults() {
		for _, b := range faults() {
			l := house()
			a.turn(&l[1])
			b.turn(&l[3])
			wantRefused(t, a.what+" ahead of "+b.what, l, api.ErrStep, 1)
		}
	}
	l := make([]api.Step, 5)
	wantRefused(t, "steps of nothing", l, api.ErrStep, 0)
	l[0] = step("+D 0 fact")
	wantRefused(t, "steps of nothing but the first", l, api.ErrStep, 1)
}

// TestNoSteps: nil and empty are one.
func TestNoSteps(t *testing.T) {
	wantTaken(t, "nil", nil, summed(unhex("6C786401 00")))
	wantTaken(t, "empty", []api.Step{}, summed(unhex("6C786401 00")))
	wantTaken(t, "nothing of a list", house()[:0], summed(unhex("6C786401 00")))
}

// TestMostSteps: and one more, which goes ahead of any step's fault.
func TestMostSteps(t *testing.T) {
	l := slices.Repeat(house(), 65536/5+1)[:65536]
	want := append(unhex("6C786401 808004"), slices.Repeat(houseBytes()[5:], 65536/5+1)...)
	want = want[:7+65536/5*(len(houseBytes())-5)+5] // 65536 is five times 13107, and the first step once more
	wantTaken(t, "the most steps", l, summed(want))
	for _, at := range []int{0, 1, 40000, 65535} {
		spoilt := slices.Clone(l)
		spoilt[at].Tag = 5
		wantRefused(t, "a fault in the most steps", spoilt, api.ErrStep, at)
	}
	wantTaken(t, "one fewer", l[:65535], modelBytes(l[:65535]))
	wantRefused(t, "one more", append(l, l[0]), api.ErrCount, 0)
	wantRefused(t, "one more, which is none", append(l, api.Step{}), api.ErrCount, 0)
	wantRefused(t, "one more, and none is a step", make([]api.Step, 65537), api.ErrCount, 0)
	wantRefused(t, "twice as many", slices.Concat(l, l), api.ErrCount, 0)
	wantRefused(t, "many that are none", make([]api.Step, 200000), api.ErrCount, 0)
}
