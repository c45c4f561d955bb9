package wire_test

import (
	"slices"
	"testing"

	"lexprior/api"
)

// TestLongChoices: many steps, each with as many choices as can be.
func TestLongChoices(t *testing.T) {
	t.Parallel()
	var l []api.Step
	for lit := range 100 {
		s := api.Step{Tag: 4, Lit: lit, How: 3, Rule: -1}
		for rule := range 4096 {
			s.Choices = append(s.Choices, api.Choice{Place: rule%17 - 1, Rule: (rule+lit)%4097 - 1})
		}
		l = append(l, s)
	}
	b := modelBytes(l)
	wantTaken(t, "the most choices", l, b)
	wantFault(t, "a byte behind", append(slices.Clone(b), 0), api.ErrTail, len(b))
	wantFault(t, "cut", b[:len(b)-5], api.ErrShort, len(b)-5)
	l[99].Choices[4095].Rule = 4096
	wantRefused(t, "the last choice", l, api.ErrStep, 99)
}

// TestAllLits: the most steps, of each literal all tags and more, with choices.
func TestAllLits(t *testing.T) {
	t.Parallel()
	var l []api.Step
	for n := range 65536 {
		l = append(l, api.Step{
			Tag: api.Tag(n%4 + 1), Lit: n / 4 % 4096, How: api.How(n%5 + 1), Rule: n%4097 - 1,
			Choices: slices.Repeat([]api.Choice{{Place: n%17 - 1, Rule: n%4093 - 1}}, n%7),
		})
	}
	b := modelBytes(l)
	wantTaken(t, "the most steps", l, b)
	for _, at := range []int{len(b) / 3, len(b) / 2, len(b) - 5} {
		turned := slices.Clone(b)
		turned[at] ^= 1
		_, errno, place := modelDecode(turned)
		wantFault(t, "a bit turned", turned, errno, place)
	}
}
