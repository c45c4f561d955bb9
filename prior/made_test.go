package prior_test

import (
	"math"
	"math/rand"
	"slices"
	"strconv"
	"strings"

	"lexprior/api"
)

// maker makes statutes that resolve.Check takes, grounds and lists.
type maker struct {
	chance *rand.Rand
}

func newMaker(seed int64) *maker {
	return &maker{chance: rand.New(rand.NewSource(seed))}
}

func (m *maker) oneIn(many int) bool {
	return m.chance.Intn(many) == 0
}

func pick[T any](m *maker, list ...T) T {
	return list[m.chance.Intn(len(list))]
}

// statute: of so many schemas; ranks and days are few, so that they are often the same.
func (m *maker) statute(schemas, excepts int) api.Statute {
	var all []schema
	for range schemas {
		all = append(all, schema{pick(m, 0, 1, 1, 2, 1000), pick(m, 1, 2, 2, 3, lastDay)})
	}
	return m.excepted(law(all), excepts)
}

// excepted: with at most so many exceptions more.
func (m *maker) excepted(s api.Statute, excepts int) api.Statute {
	for range excepts {
		if len(s.Rules) == 0 {
			break
		}
		one := api.Pair{A: m.chance.Intn(len(s.Rules)), B: m.chance.Intn(len(s.Rules))}
		if more := excepted(s, one); !slices.Contains(s.Excepts, more.Excepts[len(s.Excepts)]) {
			s = more
		}
	}
	return s
}

// ground: of at most so many literals and rules, whose schemas a statute of so many has.
func (m *maker) ground(lits, rules, schemas int) api.Ground {
	lits = 1 + m.chance.Intn(lits)
	var all []int
	for range m.chance.Intn(rules + 1) {
		all = append(all, m.chance.Intn(lits))
	}
	var foes [][]int
	for range m.chance.Intn(2 * lits) {
		foes = append(foes, []int{m.chance.Intn(lits), m.chance.Intn(lits)})
	}
	g := heads(all, foes...)
	for r := range g.Theory.Rules {
		g.Theory.Rules[r].Kind = pick(m, api.Strict, api.Defeasible, api.Defeater)
		g.Theory.Rules[r].Body = pick(m, nil, []int{0}, upTo(g.Theory.Lits))
		g.Schema[r] = m.chance.Intn(schemas)
	}
	for range m.chance.Intn(3) {
		g.Lits = append(g.Lits, api.Lit{Neg: m.oneIn(2), Atom: m.atom(), Guard: m.chance.Intn(3)})
		g.Guards = append(g.Guards, api.Guard{Terms: []api.Term{{Coef: 3, Atom: m.atom()}, {Atom: m.atom()}}, Const: 7, Op: 1})
		g.Theory.Beats = append(g.Theory.Beats, m.list(6, 9))
	}
	return g
}

func (m *maker) atom() api.Atom {
	return api.Atom{Pred: m.chance.Intn(5), Args: m.list(3, 5), Value: 100}
}

// list: at most so many numbers, most of them below one.
func (m *maker) list(most, below int) []int {
	var list []int
	for range m.chance.Intn(most + 1) {
		list = append(list, m.odd(below))
	}
	return list
}

// odd: a number that may be; now and then one that is none.
func (m *maker) odd(below int) int {
	if m.oneIn(12) || below == 0 {
		return pick(m, -1, below, below+1, math.MaxInt, math.MinInt)
	}
	return m.chance.Intn(below)
}

// lists: of so many places, each with at most so many edges; those with few often have no circle.
func (m *maker) lists(places, most int) [][]int {
	beats := make([][]int, m.chance.Intn(places+1))
	for place := range beats {
		beats[place] = m.list(most, len(beats))
	}
	return beats
}

// ordered: likewise without a circle: edges go one way through an order by chance.
func (m *maker) ordered(places, most int) [][]int {
	beats := m.lists(places, most)
	turn := m.chance.Perm(len(beats))
	for place, list := range beats {
		beats[place] = slices.DeleteFunc(list, func(other int) bool { return isPlace(other, len(beats)) && turn[other] <= turn[place] })
	}
	return beats
}

func (m *maker) spoilStatute(s *api.Statute) {
	if len(s.Rules) == 0 {
		s.Kinds = append(s.Kinds, "")
		return
	}
	r := &s.Rules[m.chance.Intn(len(s.Rules))]
	switch m.chance.Intn(5) {
	case 0:
		r.Source = pick(m, "none", "")
	case 1:
		r.At = pick[api.Date](m, 0, -1, lastDay+1)
	case 2:
		r.Name = pick(m, "", "r0", "R")
	case 3:
		s.Sources[0].Rank = pick(m, -1, 1001)
	case 4:
		s.Excepts = append(s.Excepts, api.Exception{Over: r.Name, Under: "none"})
	}
}

func (m *maker) spoilGround(g *api.Ground) {
	switch m.chance.Intn(6) {
	case 0:
		g.Theory.Lits = pick(m, -1, 4097, g.Theory.Lits+1, math.MaxInt)
	case 1:
		g.Theory.Foes = append(g.Theory.Foes, nil)
	case 2:
		addRules(g, 0, 1)
		g.Theory.Rules[m.chance.Intn(len(g.Theory.Rules))].Head = pick(m, -1, 99, g.Theory.Lits)
	case 3:
		g.Schema = append(g.Schema, 0)
	case 4:
		if len(g.Schema) > 0 {
			g.Schema[m.chance.Intn(len(g.Schema))] = pick(m, -1, 64, math.MaxInt, math.MinInt)
		}
	case 5:
		g.Theory.Beats = m.lists(9, 9)
	}
}

// text: a household whose rules' heads are often in conflict.
func (m *maker) text(rules, excepts int) string {
	text := `kind person. member ann, ben : person. pred old(person). pred single(person). pred married(person). pred rains.
		amount help(person) : 10, 20, 30. amount bonus : 1, 2. class single, married. source act rank 2. source decree rank 1. source order rank 1.`
	for n := range rules {
		head := pick(m, "help(X) = 10", "help(X) = 20", "help(ann) = 30", "-help(X) = 10", "single(X)", "married(Y)", "-married(ben)", "bonus = 1", "bonus = 2", "-bonus = 2", "rains", "-rains")
		text += " rule r" + strconv.Itoa(n) + " of " + pick(m, "act", "decree", "order") + " at 200" + strconv.Itoa(m.chance.Intn(4)) + "-01-01 : " +
			pick(m, "", "old(X)", "rains") + " " + pick(m, "->", "=>", "~>") + " " + head + "."
	}
	for range excepts {
		one := " exception r" + strconv.Itoa(m.chance.Intn(rules)) + " to r" + strconv.Itoa(m.chance.Intn(rules)) + "."
		if !strings.Contains(text, one) {
			text += one
		}
	}
	return text
}
