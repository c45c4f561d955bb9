package theory_test

import (
	"math"
	"slices"
	"testing"

	"lexprior/api"
)

// wrong is something done to house, and what Check says of it then.
type wrong struct {
	what  string
	errno api.Errno
	at    int
	spoil func(t *api.Theory)
}

// each: one wrong a value.
func each[T any](what string, errno api.Errno, at int, spoil func(t *api.Theory, value T), values ...T) []wrong {
	var all []wrong
	for _, value := range values {
		all = append(all, wrong{what, errno, at, func(t *api.Theory) { spoil(t, value) }})
	}
	return all
}

// foeWrongs: of the literals of house, literal by literal.
func foeWrongs() []wrong {
	set := func(lit int) func(t *api.Theory, foes []int) {
		return func(t *api.Theory, foes []int) { t.Foes[lit] = foes }
	}
	var all []wrong
	for lit, foes := range house().Foes {
		for _, no := range []int{-1, 6, math.MaxInt, math.MinInt, lit} {
			all = append(all, each("no foe", api.ErrFoe, lit, set(lit), append(slices.Clone(foes), no), append([]int{no}, foes...))...)
		}
		if len(foes) == 0 {
			continue
		}
		turned := slices.Clone(foes)
		slices.Reverse(turned)
		all = append(all, each("twice", api.ErrFoe, lit, set(lit), append(slices.Clone(foes), foes[len(foes)-1]), append(slices.Clone(foes), turned...))...)
		if len(foes) > 1 {
			all = append(all, each("not rising", api.ErrFoe, lit, set(lit), turned)...)
		}
	}
	all = append(all, each("itself too", api.ErrFoe, 0, set(0), []int{0, 1, 2})...)
	all = append(all, each("itself too", api.ErrFoe, 1, set(1), []int{0, 1, 2})...)
	all = append(all, each("itself too", api.ErrFoe, 4, set(4), []int{3, 4})...)
	all = append(all, each("1 and 2 are not returned, but told first is what they are not returned by", api.ErrFoe, 0, set(0), []int{-1}, []int{6}, []int{0})...)
	all = append(all, each("5 does not return it", api.ErrFoe, 3, set(3), []int{4, 5})...)
	all = append(all, each("4 does not return it", api.ErrFoe, 5, set(5), []int{3, 4})...)
	all = append(all, each("2 is not returned by 0", api.ErrFoe, 2, set(0), []int{1})...)
	all = append(all, each("4 is not returned by 3", api.ErrFoe, 4, set(3), nil)...)
	all = append(all, each("0 is not returned by 1", api.ErrFoe, 0, set(1), nil, []int{2})...)
	slices.SortStableFunc(all, func(a, b wrong) int { return a.at - b.at })
	return all
}

// ruleWrongs: of each rule of house its Kind, Head and Body.
func ruleWrongs() []wrong {
	var all []wrong
	for r := range house().Rules {
		all = append(all, each("kind", api.ErrRule, r, func(t *api.Theory, kind api.Arrow) { t.Rules[r].Kind = kind }, 0, 4, -1, math.MaxInt, math.MinInt)...)
		all = append(all, each("head", api.ErrRule, r, func(t *api.Theory, head int) { t.Rules[r].Head = head }, -1, 6, math.MaxInt, math.MinInt)...)
		all = append(all, each("body", api.ErrRule, r, func(t *api.Theory, body []int) { t.Rules[r].Body = body },
			[]int{-1}, []int{6}, []int{math.MaxInt}, []int{math.MinInt}, []int{0, 0}, []int{1, 0}, []int{0, 5, 4}, []int{0, 1, 2, 6}, make([]int, 16), upTo(17), make([]int, 999))...)
	}
	return all
}

// beatWrongs: of each rule of house.
func beatWrongs() []wrong {
	set := func(r int) func(t *api.Theory, beats []int) {
		return func(t *api.Theory, beats []int) { t.Beats[r] = beats }
	}
	var all []wrong
	for r := range house().Rules {
		all = append(all, each("no rules", api.ErrBeat, r, set(r), []int{-1}, []int{7}, []int{math.MaxInt}, []int{math.MinInt}, []int{r}, make([]int, 9999))...)
	}
	all = append(all, each("not rising", api.ErrBeat, 0, set(0), []int{2, 1}, []int{1, 1}, []int{1, 2, 2}, []int{1, 6, 2}, []int{1, 2, 6, 7}, []int{-1, 1})...)
	all = append(all, each("heads that are no foes", api.ErrBeat, 0, set(0), []int{3}, []int{4}, []int{5}, []int{1, 2, 3}, []int{0, 1}, []int{1, 5, 6})...)
	all = append(all, each("the same head", api.ErrBeat, 1, set(1), []int{6}, []int{2, 6}, []int{1, 2}, []int{0, 6})...)
	all = append(all, each("no foes at all", api.ErrBeat, 5, set(5), []int{0}, []int{4}, []int{6}, upTo(7))...)
	slices.SortStableFunc(all, func(a, b wrong) int { return a.at - b.at })
	return all
}

// circleWrongs: rules 0, 1, 2, 6 may beat each other, and 3 and 4.
func circleWrongs() []wrong {
	beat := func(what string, lowest int, beats ...[]int) []wrong {
		return each(what, api.ErrPriorityCycle, lowest, func(t *api.Theory, beats [][]int) { t.Beats = slices.Clone(beats) }, beats)
	}
	return slices.Concat(
		beat("two", 0, []int{1}, []int{0}, nil, nil, nil, nil, nil),
		beat("two others", 3, []int{1}, []int{2}, nil, []int{4}, []int{3}, nil, nil),
		beat("two pairs", 0, []int{6}, nil, nil, []int{4}, []int{3}, nil, []int{0}),
		beat("three", 0, []int{1}, []int{2}, []int{0}, nil, nil, nil, nil),
		beat("three the other way", 0, []int{2}, []int{0}, []int{1}, nil, nil, nil, nil),
		beat("one leads into it", 1, []int{1, 2, 6}, []int{2}, []int{1}, nil, nil, nil, nil),
		beat("one leads into it from behind", 0, []int{2}, []int{2}, []int{0}, nil, nil, nil, []int{0, 2}),
		beat("it leads on to one ahead", 1, nil, []int{2}, []int{0, 1}, nil, nil, nil, nil),
		beat("it leads on to one behind", 0, []int{2}, nil, []int{0, 6}, nil, nil, nil, nil),
		beat("two that have one in common", 0, []int{2}, []int{2}, []int{0, 1}, nil, nil, nil, nil),
		beat("the highest only", 2, []int{2, 6}, nil, []int{6}, nil, nil, nil, []int{2}),
	)
}

// wrongs: in the order in which Check looks.
func wrongs() []wrong {
	return slices.Concat(
		each("Lits", api.ErrLits, 0, func(t *api.Theory, lits int) { t.Lits = lits }, -1, math.MinInt, 4097, math.MaxInt),
		each("Lits and Foes", api.ErrFoe, 0, func(t *api.Theory, lits int) { t.Lits = lits }, 0, 5, 7, 4096),
		each("Foes", api.ErrFoe, 0, func(t *api.Theory, foes [][]int) { t.Foes = slices.Clone(foes) }, nil, [][]int{}, make([][]int, 5), make([][]int, 7), make([][]int, 5000)),
		foeWrongs(),
		each("Rules", api.ErrGround, 0, func(t *api.Theory, more int) { t.Rules = append(t.Rules, make([]api.Rule, more)...) }, 4090, 4091, 9999),
		ruleWrongs(),
		each("Beats", api.ErrBeat, 0, func(t *api.Theory, beats [][]int) { t.Beats = slices.Clone(beats) }, nil, [][]int{}, make([][]int, 6), make([][]int, 8), make([][]int, 5000)),
		beatWrongs(),
		circleWrongs(),
	)
}

func TestHouse(t *testing.T) {
	wantCheck(t, "house", house(), api.OK, 0)
	wantCheck(t, "nothing", api.Theory{}, api.OK, 0)
	wantCheck(t, "nothing", plain(0), api.OK, 0)
	wantCheck(t, "no rules", plain(3), api.OK, 0)
	wantCheck(t, "all rules", plain(3, rule(0), rule(0), rule(2, 0, 1, 2), rule(1, 1)), api.OK, 0)
	wantCheck(t, "a rule without literals", plain(0, rule(0)), api.ErrRule, 0)
}

func TestEachFault(t *testing.T) {
	for _, w := range wrongs() {
		x := house()
		w.spoil(&x)
		wantCheck(t, w.what, x, w.errno, w.at)
		wantRefused(t, x, w.errno)
	}
}

// TestTwoFaults: the first in the chapter's order is told. (It is done last, so that the other one leaves it as it is.)
func TestTwoFaults(t *testing.T) {
	t.Parallel()
	all := wrongs()
	for i, first := range all {
		for _, second := range all[i+1:] {
			x := house()
			second.spoil(&x)
			first.spoil(&x)
			errno, at := first.errno, first.at
			if !apart(first, second) {
				errno, at = modelCheck(x)
			}
			wantCheck(t, first.what+" and "+second.what, x, errno, at)
			if t.Failed() {
				return
			}
		}
	}
}

// apart: of foes and circles the one may undo the other: whoever is not returned may be returned then. What is told of both the model says.
func apart(first, second wrong) bool {
	return first.errno != second.errno || first.errno != api.ErrFoe && first.errno != api.ErrPriorityCycle
}

// TestFoesInOrder: the lowest literal is told, whatever is wrong with it.
func TestFoesInOrder(t *testing.T) {
	x := house()
	for _, one := range []struct {
		what string
		at   int
		foes [][]int
	}{
		{"1 is not returned by 2, which is out of order itself", 0, [][]int{{1, 2}, {0, 2}, {7}, {4}, {3}, nil}},
		{"2 is out of order, and returns both", 2, [][]int{{1, 2}, {0, 2}, {1, 0}, {4}, {3}, nil}},
		{"2 is out of order, and returns 0 alone", 1, [][]int{{1, 2}, {0, 2}, {9, 0}, {4}, {3}, nil}},
		{"2 has itself, and returns both", 2, [][]int{{1, 2}, {0, 2}, {0, 1, 2}, {4}, {3}, nil}},
		{"2 returns both twice", 2, [][]int{{1, 2}, {0, 2}, {0, 0, 1, 1}, {4}, {3}, nil}},
		{"0 has what it has not, and 1 itself", 0, [][]int{{5}, {1}, nil, nil, nil, nil}},
		{"4 has 3 alone, 3 has not", 4, [][]int{nil, nil, nil, nil, {3}, nil}},
		{"3 has 4 alone, 4 has not", 3, [][]int{nil, nil, nil, {4}, nil, nil}},
		{"3 has 4, 4 is not rising and has it", 4, [][]int{nil, nil, nil, {4}, {5, 3}, {4}}},
	} {
		x.Foes = one.foes
		wantCheck(t, one.what, x, api.ErrFoe, one.at)
	}
}

func TestFacts(t *testing.T) {
	for _, x := range []api.Theory{house(), {Lits: 6}, {Lits: 6, Foes: [][]int{{0}}, Rules: make([]api.Rule, 3)}} {
		for _, facts := range [][]int{nil, {}, {0}, {5}, {0, 5}, {1, 2}, upTo(6)} {
			wantFacts(t, x, facts, api.OK)
		}
		for _, facts := range [][]int{{-1}, {6}, {math.MaxInt}, {math.MinInt}, {0, 0}, {5, 5}, {1, 0}, {0, 2, 1}, {0, 1, 6}, {-1, 0}, upTo(7), {0, 1, 2, 3, 4, 5, 5}} {
			wantFacts(t, x, facts, api.ErrFact)
		}
	}
	wantFacts(t, api.Theory{}, nil, api.OK)
	wantFacts(t, api.Theory{}, []int{0}, api.ErrFact)
	for _, lits := range []int{-1, math.MinInt} {
		wantFacts(t, api.Theory{Lits: lits}, nil, api.OK)
		for _, fact := range []int{0, -1, lits, math.MinInt, math.MaxInt} {
			wantFacts(t, api.Theory{Lits: lits}, []int{fact}, api.ErrFact)
		}
	}
	wantFacts(t, api.Theory{Lits: math.MaxInt}, []int{0, 4096, math.MaxInt - 1}, api.OK)
	wantFacts(t, api.Theory{Lits: math.MaxInt}, []int{0, 4096, math.MaxInt}, api.ErrFact)
	wantFacts(t, plain(4096), upTo(4096), api.OK)
	wantFacts(t, plain(4096), upTo(4097), api.ErrFact)
}
