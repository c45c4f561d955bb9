package theory

import "lexprior/api"

// gone is the new place of what is not in a part.
const gone = -1

// newPlaces: of so many things, which new place each of these has; the others have gone.
func newPlaces(many int, those []int) []int {
	places := make([]int, many)
	for n := range places {
		places[n] = gone
	}
	for place, n := range those {
		places[n] = place
	}
	return places
}

// moved: those of a list that are still there, by their new places.
func moved(list, places []int) []int {
	var left []int
	for _, n := range list {
		if places[n] != gone {
			left = append(left, places[n])
		}
	}
	return left
}

// partOf: the theory of these literals, and the old numbers of its rules.
func partOf(t api.Theory, lits []int) (api.Theory, []int) {
	litPlaces := newPlaces(t.Lits, lits)
	part := api.Theory{Lits: len(lits)}
	for _, lit := range lits {
		part.Foes = append(part.Foes, moved(t.Foes[lit], litPlaces))
	}
	var rules []int
	for r, rule := range t.Rules {
		body := moved(rule.Body, litPlaces)
		if litPlaces[rule.Head] == gone || len(body) < len(rule.Body) {
			continue
		}
		rules = append(rules, r)
		part.Rules = append(part.Rules, api.Rule{Kind: rule.Kind, Head: litPlaces[rule.Head], Body: body})
	}
	rulePlaces := newPlaces(len(t.Rules), rules)
	for _, r := range rules {
		part.Beats = append(part.Beats, moved(t.Beats[r], rulePlaces))
	}
	return part, rules
}
