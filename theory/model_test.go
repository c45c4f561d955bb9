package theory_test

import (
	"cmp"
	"slices"

	"lexprior/api"
)

// What the chapter says, in another way: by sets of pairs, and by going over all pairs till nothing changes. For small theories.

// edges is a relation.
type edges map[[2]int]bool

func edgesOf(lists [][]int) edges {
	e := edges{}
	for a, list := range lists {
		for _, b := range list {
			e[[2]int{a, b}] = true
		}
	}
	return e
}

// closed: with all that is come to by way of others (after Warshall).
func (e edges) closed(many int) edges {
	all := edges{}
	for pair := range e {
		all[pair] = true
	}
	for by := range many {
		for a := range many {
			for b := range many {
				if all[[2]int{a, by}] && all[[2]int{by, b}] {
					all[[2]int{a, b}] = true
				}
			}
		}
	}
	return all
}

func risingBelow(list []int, below int) bool {
	inOrder := slices.IsSorted(list) && len(slices.Compact(slices.Clone(list))) == len(list)
	return inOrder && (len(list) == 0 || list[0] >= 0 && slices.Max(list) < below)
}

// found is a fault: which of the chapter's it is, and of which number.
type found struct {
	turn, at int
	errno    api.Errno
}

// modelCheck: of all faults, however many there are, the first.
func modelCheck(t api.Theory) (api.Errno, int) {
	var all []found
	note := func(is bool, turn, at int, errno api.Errno) {
		if is {
			all = append(all, found{turn, at, errno})
		}
	}
	foes, beats := edgesOf(t.Foes), edgesOf(t.Beats)
	note(t.Lits < 0 || t.Lits > 4096, 1, 0, api.ErrLits)
	note(len(t.Foes) != t.Lits, 2, 0, api.ErrFoe)
	for a, list := range t.Foes {
		note(len(list) > 64 || !risingBelow(list, t.Lits) || foes[[2]int{a, a}], 3, a, api.ErrFoe)
		for _, b := range list {
			note(!foes[[2]int{b, a}], 3, a, api.ErrFoe)
		}
	}
	note(len(t.Rules) > 4096, 4, 0, api.ErrGround)
	for r, rule := range t.Rules {
		kinds := []api.Arrow{api.Strict, api.Defeasible, api.Defeater}
		note(!slices.Contains(kinds, rule.Kind) || !risingBelow([]int{rule.Head}, t.Lits) || !risingBelow(rule.Body, t.Lits) || len(rule.Body) > 16, 5, r, api.ErrRule)
	}
	note(modelPairs(t) > 65536, 6, 0, api.ErrPairs)
	note(len(t.Beats) != len(t.Rules), 7, 0, api.ErrBeat)
	for r, list := range t.Beats {
		note(!risingBelow(list, len(t.Rules)), 8, r, api.ErrBeat)
		for _, s := range list {
			note(r >= len(t.Rules) || s < 0 || s >= len(t.Rules) || !foes[[2]int{t.Rules[r].Head, t.Rules[s].Head}], 8, r, api.ErrBeat)
		}
	}
	way := beats.closed(len(t.Beats))
	for r := range t.Beats {
		note(way[[2]int{r, r}], 9, r, api.ErrPriorityCycle)
	}
	if len(all) == 0 {
		return api.OK, 0
	}
	first := slices.MinFunc(all, func(a, b found) int { return cmp.Or(a.turn-b.turn, a.at-b.at) })
	return first.errno, first.at
}

// modelPairs: each two rules are held against each other.
func modelPairs(t api.Theory) int {
	foes := edgesOf(t.Foes)
	pairs := 0
	for _, a := range t.Rules {
		for _, b := range t.Rules {
			if foes[[2]int{a.Head, b.Head}] {
				pairs++
			}
		}
	}
	return pairs
}

// modelBytes: also of a theory that may not be.
func modelBytes(t api.Theory) []byte {
	numbers := []int{t.Lits}
	list := func(some []int) {
		numbers = append(append(numbers, len(some)), some...)
	}
	for lit, foes := range t.Foes {
		list(slices.DeleteFunc(slices.Clone(foes), func(foe int) bool { return foe < lit }))
	}
	numbers = append(numbers, len(t.Rules))
	for _, rule := range t.Rules {
		numbers = append(numbers, int(rule.Kind), rule.Head)
		list(rule.Body)
	}
	for _, beaten := range t.Beats {
		list(beaten)
	}
	b := []byte{'t', 'h', 'y', 1}
	for _, n := range numbers {
		b = append(b, number(uint64(n))...)
	}
	return b
}

// shown is a number in bytes, or that there is none at its place.
type shown struct {
	n     uint64
	from  int // where it begins
	at    int // the place that is told of a fault
	errno api.Errno
}

// numbersIn: all that stand in bytes from a place on; behind the last one, or the first that is none, stands what ended them.
func numbersIn(b []byte, at int) []shown {
	var all []shown
	for {
		end := slices.IndexFunc(b[at:], func(c byte) bool { return c < 0x80 })
		if end < 0 && len(b)-at < 10 {
			return append(all, shown{0, at, len(b), api.ErrShort})
		}
		if end < 0 || end > 9 || end == 9 && b[at+9] > 1 || end > 0 && b[at+end] == 0 {
			return append(all, shown{0, at, at, api.ErrNumber})
		}
		var n uint64
		for i := end; i >= 0; i-- {
			n = n<<7 + uint64(b[at+i]&0x7F)
		}
		all = append(all, shown{n, at, at, api.OK})
		at += end + 1
	}
}

// modelReader takes one number after the other; after the first fault it has that.
type modelReader struct {
	numbers []shown
	fault   shown
}

func (r *modelReader) next(ok func(n uint64) bool, errno api.Errno) int {
	if r.fault.errno != api.OK {
		return 0
	}
	first := r.numbers[0]
	if first.errno == api.OK && !ok(first.n) {
		first.errno = errno
	}
	if first.errno != api.OK {
		r.fault = first
		return 0
	}
	r.numbers = r.numbers[1:]
	return int(first.n)
}

func (r *modelReader) count(most uint64) int {
	return r.next(func(n uint64) bool { return n <= most }, api.ErrCount)
}

// list: below is held against ahead of it, least is below all of them.
func (r *modelReader) list(most uint64, least, below int, errno api.Errno) []int {
	var list []int
	for range r.count(most) {
		n := r.next(func(n uint64) bool {
			return n < uint64(below) && int(n) > least && !slices.ContainsFunc(list, func(m int) bool { return m >= int(n) })
		}, errno)
		list = append(list, n)
	}
	return list
}

// modelDecode: the mark, all numbers, and what they say.
func modelDecode(b []byte) (api.Theory, api.Errno, int) {
	for at, c := range []byte{'t', 'h', 'y', 1} {
		if at == len(b) {
			return api.Theory{}, api.ErrShort, at
		}
		if b[at] != c {
			return api.Theory{}, api.ErrArg, at
		}
	}
	r := &modelReader{numbers: numbersIn(b, 4)}
	t := plain(r.count(4096))
	for lit := range t.Lits {
		for _, foe := range r.list(64, lit, t.Lits, api.ErrFoe) {
			if r.fault.errno == api.OK {
				t.Foes[lit] = append(t.Foes[lit], foe)
				t.Foes[foe] = append(t.Foes[foe], lit)
			}
		}
	}
	for _, foes := range t.Foes {
		slices.Sort(foes)
	}
	for range r.count(4096) {
		kind := r.next(func(n uint64) bool { return n == 1 || n == 2 || n == 3 }, api.ErrRule)
		head := r.next(func(n uint64) bool { return n < uint64(t.Lits) }, api.ErrRule)
		t.Rules = append(t.Rules, api.Rule{Kind: api.Arrow(kind), Head: head, Body: r.list(16, -1, t.Lits, api.ErrRule)})
	}
	for range t.Rules {
		t.Beats = append(t.Beats, r.list(4096, -1, len(t.Rules), api.ErrBeat))
	}
	if r.fault.errno != api.OK {
		return api.Theory{}, r.fault.errno, r.fault.at
	}
	if behind := r.numbers[0].from; behind < len(b) {
		return api.Theory{}, api.ErrTail, behind
	}
	if errno, _ := modelCheck(t); errno != api.OK {
		return api.Theory{}, errno, 0
	}
	return t, api.OK, len(b)
}

// modelFor, modelCone, modelPart, modelLayers: of theories that may be.
func modelFor(t api.Theory, lit int) []int {
	return slices.DeleteFunc(upTo(len(t.Rules)), func(r int) bool { return t.Rules[r].Head != lit })
}

// modelCone: by all ways that lead from one literal to another.
func modelCone(t api.Theory, lits []int) []int {
	leads := edgesOf(t.Foes)
	for _, rule := range t.Rules {
		for _, lit := range rule.Body {
			leads[[2]int{lit, rule.Head}] = true
		}
	}
	way := leads.closed(t.Lits)
	return slices.DeleteFunc(upTo(t.Lits), func(b int) bool {
		return !slices.Contains(lits, b) && !slices.ContainsFunc(lits, func(a int) bool { return way[[2]int{a, b}] })
	})
}

// modelPart: what is not among them is taken out, one by one, from the last on.
func modelPart(t api.Theory, lits []int) (api.Theory, []int) {
	part, rules := exact(t), upTo(len(t.Rules))
	for lit := t.Lits - 1; lit >= 0; lit-- {
		if !slices.Contains(lits, lit) {
			part, rules = withoutLit(part, rules, lit)
		}
	}
	return part, rules
}

func withoutLit(t api.Theory, old []int, lit int) (api.Theory, []int) {
	for r := len(t.Rules) - 1; r >= 0; r-- {
		if t.Rules[r].Head == lit || slices.Contains(t.Rules[r].Body, lit) {
			t.Rules, old = slices.Delete(t.Rules, r, r+1), slices.Delete(old, r, r+1)
			t.Beats = slices.Delete(t.Beats, r, r+1)
			for s := range t.Beats {
				t.Beats[s] = without(t.Beats[s], r)
			}
		}
	}
	t.Lits, t.Foes = t.Lits-1, slices.Delete(t.Foes, lit, lit+1)
	for a := range t.Foes {
		t.Foes[a] = without(t.Foes[a], lit)
	}
	for r, rule := range t.Rules {
		t.Rules[r].Head, t.Rules[r].Body = without([]int{rule.Head}, lit)[0], without(rule.Body, lit)
	}
	return t, old
}

// without: the number goes, and those above come down by one.
func without(list []int, n int) []int {
	var left []int
	for _, m := range list {
		if m < n {
			left = append(left, m)
		} else if m > n {
			left = append(left, m-1)
		}
	}
	return left
}

// dependencies: of each literal on others, as the chapter says it.
func dependencies(t api.Theory) edges {
	foes := edgesOf(t.Foes)
	needs := edgesOf(t.Foes)
	for lit := range t.Lits {
		for _, rule := range t.Rules {
			if rule.Head == lit || foes[[2]int{lit, rule.Head}] {
				for _, need := range rule.Body {
					needs[[2]int{lit, need}] = true
				}
			}
		}
	}
	return needs
}

// modelLayers: a layer rises till it is above all that its knot depends on.
func modelLayers(t api.Theory) ([]int, int) {
	needs := dependencies(t)
	way := needs.closed(t.Lits)
	knit := func(a, b int) bool { return a == b || way[[2]int{a, b}] && way[[2]int{b, a}] }
	layers := make([]int, t.Lits)
	for changed := true; changed; {
		changed = false
		for pair := range needs {
			for lit := range t.Lits {
				if knit(lit, pair[0]) && !knit(lit, pair[1]) && layers[lit] <= layers[pair[1]] {
					layers[lit], changed = layers[pair[1]]+1, true
				}
			}
		}
	}
	if t.Lits == 0 {
		return nil, 0
	}
	return layers, slices.Max(layers) + 1
}
