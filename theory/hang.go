package theory

import "lexprior/api"

// coneOf: a worklist; each literal waits in it once.
func coneOf(t api.Theory, lits []int) []int {
	heads := make([][]int, t.Lits)
	for _, rule := range t.Rules {
		for _, lit := range rule.Body {
			heads[lit] = append(heads[lit], rule.Head)
		}
	}
	reached := make([]bool, t.Lits)
	var waiting []int
	reach := func(some []int) {
		for _, lit := range some {
			if !reached[lit] {
				reached[lit] = true
				waiting = append(waiting, lit)
			}
		}
	}
	reach(lits)
	for len(waiting) > 0 {
		lit := waiting[len(waiting)-1]
		waiting = waiting[:len(waiting)-1]
		reach(t.Foes[lit])
		reach(heads[lit])
	}
	return placesOf(reached)
}

func placesOf(holds []bool) []int {
	var places []int
	for place, is := range holds {
		if is {
			places = append(places, place)
		}
	}
	return places
}

// layersOf: of each literal its layer, and how many layers there are.
func layersOf(t api.Theory) ([]int, int) {
	needs := needsOf(t)
	layers := make([]int, t.Lits)
	for lit := range layers {
		layers[lit] = -1
	}
	many := 0
	for _, knot := range knotsOf(needs) {
		layer := 0
		for _, lit := range knot {
			for _, need := range needs[lit] {
				layer = max(layer, layers[need]+1) // 0 of the knot itself, whose layer is not told yet
			}
		}
		for _, lit := range knot {
			layers[lit] = layer
		}
		many = max(many, layer+1)
	}
	return layers, many
}

// needsOf: of each literal its foes and the bodies of the rules for it. (The bodies of its foes' rules are met by way of the foes, which are in its knot.)
func needsOf(t api.Theory) [][]int {
	needs := make([][]int, t.Lits)
	for lit, foes := range t.Foes {
		needs[lit] = append(needs[lit], foes...)
	}
	for _, rule := range t.Rules {
		needs[rule.Head] = append(needs[rule.Head], rule.Body...)
	}
	return needs
}
