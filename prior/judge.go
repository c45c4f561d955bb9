package prior

import "lexprior/api"

// reason is by what one schema prevails over another.
type reason int

const (
	nothing   reason = iota // it does not
	specialis               // it is declared an exception to the other
	superior                // its source has the higher rank
	posterior               // it is later, and the ranks are the same
)

// pair is two schemas by their numbers, of which the one may prevail over the other.
type pair struct {
	over, under int
}

// judge says which schema of a statute that resolve.Check takes prevails over which.
type judge struct {
	rules   []api.RuleText
	ranks   map[string]int             // by the source's name
	excepts map[api.Exception]struct{} // all that are declared
	asked   map[pair]reason            // many rules have the same two schemas
}

func newJudge(s api.Statute) *judge {
	j := &judge{rules: s.Rules, ranks: map[string]int{}, excepts: map[api.Exception]struct{}{}, asked: map[pair]reason{}}
	for _, source := range s.Sources {
		j.ranks[source.Name] = source.Rank
	}
	for _, except := range s.Excepts {
		j.excepts[except] = struct{}{}
	}
	return j
}

func (j *judge) prevails(over, under int) bool {
	p := pair{over, under}
	by, known := j.asked[p]
	if !known {
		by = j.weigh(j.rules[over], j.rules[under])
		j.asked[p] = by
	}
	return by != nothing
}

// weigh: a declared exception shuts out all that speaks the other way round, but the opposite exception.
func (j *judge) weigh(over, under api.RuleText) reason {
	rank, other := j.ranks[over.Source], j.ranks[under.Source]
	switch {
	case j.declared(over, under):
		return specialis
	case j.declared(under, over):
		return nothing
	case rank > other:
		return superior
	case rank == other && over.At > under.At:
		return posterior
	}
	return nothing
}

func (j *judge) declared(over, under api.RuleText) bool {
	_, is := j.excepts[api.Exception{Over: over.Name, Under: under.Name}]
	return is
}
