package resolve_test

import (
	"math"
	"math/rand"
	"reflect"
	"slices"
	"strings"

	"lexprior/api"
	"lexprior/money"
)

// maker makes statutes that Check takes.
type maker struct {
	chance *rand.Rand
	s      api.Statute
	vars   []string // of the rule that is made now
}

func newMaker(seed int64) *maker {
	return &maker{chance: rand.New(rand.NewSource(seed))}
}

func (m *maker) maybe() bool {
	return m.chance.Intn(2) == 0
}

func pick[T any](m *maker, list ...T) T {
	return list[m.chance.Intn(len(list))]
}

func many[T any](m *maker, least, most int, make func() T) []T {
	var things []T
	for range least + m.chance.Intn(most-least+1) {
		things = append(things, make())
	}
	return things
}

// names are few, so that one of them often stands for several things.
var names = []string{"a", "b", "c", "d", "e", "f", "g", "h", "i", "j", "k", "l", "m", "n", "o_1", strings.Repeat("z", 32)}

// someNames: each another one.
func (m *maker) someNames(least, most int) []string {
	shuffled := slices.Clone(names)
	m.chance.Shuffle(len(shuffled), func(i, j int) { shuffled[i], shuffled[j] = shuffled[j], shuffled[i] })
	return shuffled[:least+m.chance.Intn(most-least+1)]
}

func (m *maker) kind() string {
	return pick(m, m.s.Kinds...)
}

func (m *maker) pred(name string) api.PredText {
	p := api.PredText{Name: name, Sort: pick(m, api.SortPlain, api.SortPlain, api.SortNumber, api.SortAmount), Kinds: many(m, 0, 2, m.kind)}
	if m.chance.Intn(8) == 0 {
		p.Kinds = many(m, 3, 4, m.kind)
	}
	if p.Sort == api.SortAmount {
		p.Values = pick(m, []api.Money{0}, []api.Money{5, 3}, []api.Money{100, 0, money.Most})
		if m.maybe() {
			p.Kinds = []string{m.kind()}
		}
	}
	return p
}

func (m *maker) predsOf(is func(p api.PredText) bool) []api.PredText {
	return slices.DeleteFunc(slices.Clone(m.s.Preds), func(p api.PredText) bool { return !is(p) })
}

// classes: of plain predicates with the same kinds, which are taken two or three at a time.
func (m *maker) classes() [][]string {
	var classes [][]string
	var taken []string
	for _, first := range m.predsOf(func(p api.PredText) bool { return p.Sort == api.SortPlain }) {
		var names []string
		for _, p := range m.predsOf(func(p api.PredText) bool { return p.Sort == api.SortPlain && slices.Equal(p.Kinds, first.Kinds) }) {
			if len(names) < 2+len(taken)%2 && !slices.Contains(taken, p.Name) {
				names = append(names, p.Name)
			}
		}
		if len(names) >= 2 && m.maybe() {
			classes, taken = append(classes, names), append(taken, names...)
		}
	}
	return classes
}

// argument: of a kind; a variable's name begins with a letter that only this kind has.
func (m *maker) argument(kind string) string {
	for _, a := range m.s.Members {
		if a.Kind == kind && m.chance.Intn(3) == 0 {
			return a.Name
		}
	}
	letter := string(rune('A' + slices.Index(m.s.Kinds, kind)))
	name := letter + pick(m, "", "", "x", "_1", strings.Repeat("Y", 31))
	m.vars = append(m.vars, name)
	return name
}

func (m *maker) arguments(p api.PredText) []string {
	var args []string
	for _, kind := range p.Kinds {
		args = append(args, m.argument(kind))
	}
	return args
}

func isNumber(p api.PredText) bool {
	return p.Sort == api.SortNumber
}

func (m *maker) literal() api.LitText {
	p := pick(m, m.predsOf(func(p api.PredText) bool { return !isNumber(p) })...)
	l := api.LitText{Neg: m.maybe(), Pred: p.Name, Args: m.arguments(p), HasValue: p.Sort == api.SortAmount}
	if l.HasValue {
		l.Value = pick(m, p.Values...)
	}
	return l
}

func (m *maker) term() api.TermText {
	numbers := m.predsOf(isNumber)
	if len(numbers) == 0 || m.chance.Intn(3) == 0 {
		return api.TermText{Value: pick(m, 0, 5, -5, money.Most, api.Money(-money.Most))}
	}
	p := pick(m, numbers...)
	return api.TermText{Coef: pick(m, 1, -1, 7, 1000, int64(-1000)), Pred: p.Name, Args: m.arguments(p)}
}

func (m *maker) guard() api.GuardText {
	most := pick(m, 2, 2, 3, 8)
	return api.GuardText{Left: many(m, 1, most, m.term), Op: api.Op(1 + m.chance.Intn(6)), Right: many(m, 1, most, m.term)}
}

func (m *maker) premise() api.PremiseText {
	if m.maybe() {
		return api.PremiseText{Kind: api.PremiseGuard, Guard: m.guard()}
	}
	return api.PremiseText{Kind: api.PremiseLit, Lit: m.literal()}
}

func (m *maker) unlike() api.PremiseText {
	args := slices.Clone(m.vars)
	for _, a := range m.s.Members {
		args = append(args, a.Name)
	}
	if len(args) == 0 {
		return m.premise()
	}
	return api.PremiseText{Kind: api.PremiseUnlike, A: pick(m, args...), B: pick(m, args...)}
}

func (m *maker) rule(name string) api.RuleText {
	m.vars = nil
	r := api.RuleText{
		Name: name, Source: pick(m, m.s.Sources...).Name, At: pick(m, 1, 1, 700, api.Date(3652058)), Arrow: api.Arrow(1 + m.chance.Intn(3)),
		Body: many(m, 0, 4, m.premise), Head: m.literal(),
	}
	if m.maybe() {
		r.Until = pick(m, r.At+1, 3652059)
	}
	for range m.chance.Intn(3) {
		r.Body = slices.Insert(r.Body, m.chance.Intn(len(r.Body)+1), m.unlike())
	}
	return r
}

func (m *maker) exceptions() []api.Exception {
	var excepts []api.Exception
	for _, over := range m.s.Rules {
		for _, under := range m.s.Rules {
			if m.chance.Intn(4) == 0 {
				excepts = append(excepts, api.Exception{Over: over.Name, Under: under.Name})
			}
		}
	}
	return excepts
}

func (m *maker) totals() []api.TotalText {
	var totals []api.TotalText
	for _, name := range m.someNames(0, 4) {
		t := api.TotalText{Name: name, Kind: m.kind(), HasCap: m.maybe()}
		for _, p := range m.predsOf(func(p api.PredText) bool { return p.Sort == api.SortAmount && slices.Equal(p.Kinds, []string{t.Kind}) }) {
			t.Preds = append(t.Preds, p.Name)
		}
		if t.HasCap {
			t.Cap = pick(m, 0, 7, api.Money(money.Most))
		}
		if len(t.Preds) > 0 {
			totals = append(totals, t)
		}
	}
	return totals
}

func (m *maker) statute() api.Statute {
	m.s = api.Statute{Title: pick(m, "", "Help", "\xff"), Kinds: m.someNames(1, 4)}
	for _, name := range m.someNames(0, 6) {
		m.s.Members = append(m.s.Members, api.MemberText{Name: name, Kind: m.kind()})
	}
	for _, name := range m.someNames(1, 12) {
		m.s.Preds = append(m.s.Preds, m.pred(name))
	}
	m.s.Classes = m.classes()
	for _, name := range m.someNames(0, 4) {
		m.s.Sources = append(m.s.Sources, api.SourceText{Name: name, Rank: pick(m, 0, 1, 1000)})
	}
	if len(m.s.Sources) > 0 && len(m.predsOf(isNumber)) < len(m.s.Preds) {
		for _, name := range m.someNames(0, 5) {
			m.s.Rules = append(m.s.Rules, m.rule(name))
		}
	}
	m.s.Excepts = m.exceptions()
	m.s.Totals = m.totals()
	return copied(m.s)
}

// places: every value within a statute that is no struct.
func places(v reflect.Value) []reflect.Value {
	var all []reflect.Value
	switch v.Kind() {
	case reflect.Struct:
		for i := range v.NumField() {
			all = append(all, places(v.Field(i))...)
		}
	case reflect.Slice:
		all = append(all, v)
		for i := range v.Len() {
			all = append(all, places(v.Index(i))...)
		}
	default:
		all = append(all, v)
	}
	return all
}

var oddTexts = []string{"", "A", "B", "C", "D", "Ax", "A_1", "Q", "_", "1", "a b", "A b", "é", "aB", "\xff", "none", strings.Repeat("z", 33), "A" + strings.Repeat("z", 32)}

var oddNumbers = []int64{0, 1, -1, 2, 3, 4, 5, 6, 7, 100, 999, 1000, 1001, -1000, -1001, 3652058, 3652059, 3652060, money.Most, money.Most + 1, -money.Most, -money.Most - 1, math.MaxInt64, math.MinInt64}

// spoil: one value becomes another, which may or may not be a fault.
func (m *maker) spoil(place reflect.Value) {
	switch place.Kind() {
	case reflect.String:
		place.SetString(pick(m, pick(m, oddTexts, names)...))
	case reflect.Bool:
		place.SetBool(!place.Bool())
	case reflect.Slice:
		m.spoilList(place)
	default:
		place.SetInt(pick(m, oddNumbers...))
	}
}

// spoilList: it becomes longer or shorter, or two of it change places.
func (m *maker) spoilList(list reflect.Value) {
	length := list.Len()
	switch choice := m.chance.Intn(5); {
	case length == 0:
		list.Set(reflect.MakeSlice(list.Type(), m.chance.Intn(3), 3))
	case choice == 0:
		n := m.chance.Intn(length)
		list.Set(reflect.AppendSlice(list.Slice3(0, n, n), list.Slice(n+1, length)))
	case choice == 1:
		list.Set(list.Slice(0, m.chance.Intn(length)))
	case choice == 2:
		more := reflect.AppendSlice(list.Slice3(0, length, length), list)
		for range m.chance.Intn(6) {
			more = reflect.AppendSlice(more, more)
		}
		list.Set(rebuilt(more, exact))
	default:
		a, b := list.Index(m.chance.Intn(length)), list.Index(m.chance.Intn(length))
		was := rebuilt(a, exact)
		a.Set(b)
		b.Set(was)
	}
}

// spoilt: a statute of which some values are others.
func (m *maker) spoilt(times int) api.Statute {
	s := m.statute()
	for range times {
		// Most that can be wrong is within rules, the sixth list.
		list := reflect.ValueOf(&s).Elem().Field(pick(m, 1, 2, 3, 4, 5, 6, 6, 6, 6, 6, 7, 8))
		all := places(list)
		m.spoil(all[m.chance.Intn(len(all))])
	}
	return s
}

func placesOf[T any](thing *T) []reflect.Value {
	return places(reflect.ValueOf(thing).Elem())
}
