package wire

import "lexprior/api"

// The numbers that a part of a step may be, from the least to the most.
const (
	leastTag   = int(api.PlusDelta)
	mostTag    = int(api.MinusPartial)
	leastHow   = int(api.HowFact)
	mostHow    = int(api.HowBeaten)
	mostLit    = api.MaxLits - 1
	mostRule   = api.MaxRules - 1
	mostPlace  = api.MaxBody - 1
	mostChoice = api.MaxRules

	// none is what a step or a choice says where it names no rule, or no place.
	none = -1
)

// mayBe: of a step each number alone is asked, whether it follows from anything is not.
func mayBe(s api.Step) bool {
	if !within(int(s.Tag), leastTag, mostTag) || !within(int(s.How), leastHow, mostHow) {
		return false
	}
	if !within(s.Lit, 0, mostLit) || !within(s.Rule, none, mostRule) || len(s.Choices) > mostChoice {
		return false
	}
	for _, c := range s.Choices {
		if !within(c.Place, none, mostPlace) || !within(c.Rule, none, mostRule) {
			return false
		}
	}
	return true
}

func within(n, least, most int) bool {
	return least <= n && n <= most
}
