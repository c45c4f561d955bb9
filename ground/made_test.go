package ground_test

import (
	"math/rand"
	"slices"
	"strings"

	"lexprior/api"
	"lexprior/money"
)

// maker makes statutes that resolve.Check takes.
type maker struct {
	chance *rand.Rand
	s      api.Statute
	vars   []string // of the rule that is made now
	most   int      // so many variables of a kind it may have
}

func newMaker(seed int64) *maker {
	return &maker{chance: rand.New(rand.NewSource(seed))}
}

func (m *maker) oneIn(many int) bool {
	return m.chance.Intn(many) == 0
}

func pick[T any](m *maker, list ...T) T {
	return list[m.chance.Intn(len(list))]
}

// some: from least to most things.
func some[T any](m *maker, least, most int, make func() T) []T {
	var things []T
	for range least + m.chance.Intn(most-least+1) {
		things = append(things, make())
	}
	return things
}

// numbered: as many names.
func numbered(letter string, many int) []string {
	var names []string
	for n := range many {
		names = append(names, letter+digits(n))
	}
	return names
}

func (m *maker) kind() string {
	return pick(m, m.s.Kinds...)
}

func (m *maker) pred(name string) api.PredText {
	p := api.PredText{Name: name, Sort: pick(m, api.SortPlain, api.SortPlain, api.SortNumber, api.SortAmount), Kinds: some(m, 0, 2, m.kind)}
	if m.oneIn(12) {
		p.Kinds = some(m, 3, 4, m.kind)
	}
	if p.Sort == api.SortAmount {
		p.Values = pick(m, []api.Money{0}, []api.Money{5, 3}, []api.Money{100, 0, money.Most})
	}
	return p
}

func (m *maker) predsOf(is func(p api.PredText) bool) []api.PredText {
	return slices.DeleteFunc(slices.Clone(m.s.Preds), func(p api.PredText) bool { return !is(p) })
}

func isNumber(p api.PredText) bool {
	return p.Sort == api.SortNumber
}

func isLiteral(p api.PredText) bool {
	return p.Sort != api.SortNumber
}

// classes: of plain predicates with the same kinds.
func (m *maker) classes() [][]string {
	var classes [][]string
	var taken []string
	for _, first := range m.s.Preds {
		var names []string
		for _, p := range m.predsOf(func(p api.PredText) bool { return p.Sort == api.SortPlain && slices.Equal(p.Kinds, first.Kinds) }) {
			if len(names) < 3 && !slices.Contains(taken, p.Name) {
				names = append(names, p.Name)
			}
		}
		if first.Sort == api.SortPlain && len(names) >= 2 && m.oneIn(2) {
			classes, taken = append(classes, names), append(taken, names...)
		}
	}
	return classes
}

// argument: of a kind; a variable's name begins with a letter that only this kind has.
func (m *maker) argument(kind string) string {
	if m.oneIn(6) {
		a := pick(m, append(m.s.Members, api.MemberText{})...)
		if a.Kind == kind {
			return a.Name
		}
	}
	name := string(rune('A'+slices.Index(m.s.Kinds, kind))) + numbered("", m.most)[m.chance.Intn(m.most)]
	m.vars = append(m.vars, name)
	return name
}

func (m *maker) arguments(p api.PredText) []string {
	var args []string
	for _, kind := range p.Kinds {
		args = append(args, m.argument(kind))
	}
	return args
}

func (m *maker) literal() api.LitText {
	p := pick(m, m.predsOf(isLiteral)...)
	l := api.LitText{Neg: m.oneIn(2), Pred: p.Name, Args: m.arguments(p), HasValue: p.Sort == api.SortAmount}
	if l.HasValue {
		l.Value = pick(m, p.Values...)
	}
	return l
}

func (m *maker) term() api.TermText {
	numbers := m.predsOf(isNumber)
	if len(numbers) == 0 || m.oneIn(3) {
		return api.TermText{Value: pick(m, 0, 5, -5, money.Most, api.Money(-money.Most))}
	}
	p := pick(m, numbers...)
	return api.TermText{Coef: pick(m, 1, -1, 2, 1000, int64(-1000)), Pred: p.Name, Args: m.arguments(p)}
}

func (m *maker) premise() api.PremiseText {
	if m.oneIn(3) {
		most := pick(m, 1, 1, 2, 8)
		return api.PremiseText{Kind: api.PremiseGuard, Guard: api.GuardText{Left: some(m, 1, most, m.term), Op: api.Op(1 + m.chance.Intn(6)), Right: some(m, 1, most, m.term)}}
	}
	return api.PremiseText{Kind: api.PremiseLit, Lit: m.literal()}
}

func (m *maker) unlike() api.PremiseText {
	args := slices.Repeat(m.vars, 3)
	for _, a := range m.s.Members {
		args = append(args, a.Name)
	}
	if len(args) == 0 {
		return m.premise()
	}
	return api.PremiseText{Kind: api.PremiseUnlike, A: pick(m, args...), B: pick(m, args...)}
}

func (m *maker) rule(name string) api.RuleText {
	m.vars = nil
	r := api.RuleText{Name: name, Source: "act", At: 1, Arrow: api.Arrow(1 + m.chance.Intn(3)), Body: some(m, 0, 4, m.premise), Head: m.literal()}
	for range m.chance.Intn(4) {
		r.Body = slices.Insert(r.Body, m.chance.Intn(len(r.Body)+1), m.unlike())
	}
	return r
}

// statute: of at most so many members, and so many rules, which have at most so many variables of a kind.
func (m *maker) statute(members, rules, variables int) api.Statute {
	m.s = api.Statute{Kinds: numbered("k", 1+m.chance.Intn(3)), Sources: []api.SourceText{{Name: "act", Rank: 1}}}
	m.most = variables
	for _, name := range numbered("m", m.chance.Intn(members+1)) {
		m.s.Members = append(m.s.Members, api.MemberText{Name: name, Kind: m.kind()})
	}
	for _, name := range numbered("p", 2+m.chance.Intn(8)) {
		m.s.Preds = append(m.s.Preds, m.pred(name))
	}
	m.s.Preds = append(m.s.Preds, api.PredText{Name: "q", Sort: api.SortPlain})
	m.s.Classes = m.classes()
	for _, name := range numbered("r", m.chance.Intn(rules+1)) {
		m.s.Rules = append(m.s.Rules, m.rule(name))
	}
	return exact(m.s)
}

// some of the faults that resolve.Check finds.
func (m *maker) spoil(s *api.Statute) {
	if len(s.Rules) == 0 {
		s.Kinds = append(s.Kinds, "k0")
		return
	}
	r := &s.Rules[m.chance.Intn(len(s.Rules))]
	switch m.chance.Intn(5) {
	case 0:
		r.Head.Pred = pick(m, "none", "", strings.ToUpper(r.Head.Pred))
	case 1:
		r.Arrow = pick[api.Arrow](m, 0, 4, -1)
	case 2:
		r.Head.Args = append(r.Head.Args, "m0", "X", "X", "X", "X")
	case 3:
		r.Body = append(r.Body, api.PremiseText{Kind: api.PremiseUnlike, A: "Free", B: "Free"})
	case 4:
		r.Body = append(r.Body, api.PremiseText{})
	}
}

// small: few members, so that the model is quick.
func (m *maker) small() api.Statute {
	s := m.statute(9, 5, pick(m, 1, 2, 2, 3, 9))
	if m.oneIn(10) {
		m.spoil(&s)
	}
	return s
}
