package printer_test

import (
	"math"
	"math/rand"
	"reflect"
	"strings"

	"lexprior/api"
	"lexprior/money"
)

// maker makes statutes that have a form.
type maker struct {
	chance *rand.Rand
}

func newMaker(seed int64) *maker {
	return &maker{chance: rand.New(rand.NewSource(seed))}
}

func (m *maker) maybe() bool {
	return m.chance.Intn(2) == 0
}

func pick[T any](m *maker, list ...T) T {
	return list[m.chance.Intn(len(list))]
}

func (m *maker) name() string {
	return pick(m, "p", "q", "r1", "anna", "help", "act", "rules", "atx", "of_", "kind2", "a"+strings.Repeat("z", 31))
}

func (m *maker) argument() string {
	if m.maybe() {
		return m.name()
	}
	return pick(m, "X", "Y", "Who", "Kind", "A_1")
}

func many[T any](m *maker, least, most int, make func() T) []T {
	var things []T
	for range least + m.chance.Intn(most-least+1) {
		things = append(things, make())
	}
	return things
}

// few: mostly few, now and then up to the limit.
func (m *maker) few(most int) int {
	if m.chance.Intn(10) > 0 {
		return min(3, most)
	}
	return most
}

func (m *maker) money() api.Money {
	return pick(m, 1, -1, api.Money(1)) * pick(m, 0, 1, 50, 100, 1000, 12345, money.Most-1, api.Money(money.Most))
}

func (m *maker) day() api.Date {
	return pick(m, 1, 365, 730179, 737821, api.Date(3652059))
}

func (m *maker) literal() api.LitText {
	l := api.LitText{Neg: m.maybe(), Pred: m.name(), Args: many(m, 0, api.MaxArity, m.argument), HasValue: m.maybe()}
	if l.HasValue {
		l.Value = m.money()
	}
	return l
}

func (m *maker) term() api.TermText {
	if m.maybe() {
		return api.TermText{Value: m.money()}
	}
	return api.TermText{Coef: pick(m, 1, 2, 999, int64(1000)), Pred: m.name(), Args: many(m, 0, api.MaxArity, m.argument)}
}

func (m *maker) side() []api.TermText {
	terms := many(m, 1, api.MaxTerms, m.term)
	for i := range terms[1:] {
		terms[i+1].Coef *= pick(m, 1, int64(-1))
	}
	return terms
}

func (m *maker) guard() api.GuardText {
	return api.GuardText{Left: m.side(), Op: api.Op(1 + m.chance.Intn(6)), Right: m.side()}
}

func (m *maker) premise() api.PremiseText {
	switch kind := api.PremiseKind(1 + m.chance.Intn(3)); kind {
	case api.PremiseLit:
		return api.PremiseText{Kind: kind, Lit: m.literal()}
	case api.PremiseGuard:
		return api.PremiseText{Kind: kind, Guard: m.guard()}
	default:
		return api.PremiseText{Kind: kind, A: m.argument(), B: m.argument()}
	}
}

func (m *maker) rule() api.RuleText {
	r := api.RuleText{Name: m.name(), Source: m.name(), At: m.day(), Body: many(m, 0, m.few(api.MaxBody), m.premise), Arrow: api.Arrow(1 + m.chance.Intn(3)), Head: m.literal()}
	if m.maybe() {
		r.Until = m.day()
	}
	return r
}

func (m *maker) member() api.MemberText {
	return api.MemberText{Name: m.name(), Kind: m.name()}
}

func (m *maker) pred() api.PredText {
	p := api.PredText{Name: m.name(), Sort: api.Sort(1 + m.chance.Intn(3)), Kinds: many(m, 0, api.MaxArity, m.name)}
	if p.Sort == api.SortAmount {
		p.Values = many(m, 1, m.few(api.MaxValues), m.money)
	}
	return p
}

func (m *maker) class() []string {
	return many(m, 2, api.MaxInClass, m.name)
}

func (m *maker) source() api.SourceText {
	return api.SourceText{Name: m.name(), Rank: pick(m, 0, 1, 17, 999, 1000)}
}

func (m *maker) exception() api.Exception {
	return api.Exception{Over: m.name(), Under: m.name()}
}

func (m *maker) total() api.TotalText {
	t := api.TotalText{Name: m.name(), Kind: m.name(), Preds: many(m, 1, api.MaxInClass, m.name), HasCap: m.maybe()}
	if t.HasCap {
		t.Cap = m.money()
	}
	return t
}

func (m *maker) statute() api.Statute {
	return api.Statute{
		Title:   pick(m, "", "", "Help", ". # é\x00\xff", "kind a.", "\t\r "),
		Kinds:   many(m, 0, m.few(api.MaxKinds), m.name),
		Members: many(m, 0, m.few(api.MaxMembers), m.member),
		Preds:   many(m, 0, m.few(20), m.pred),
		Classes: many(m, 0, m.few(20), m.class),
		Sources: many(m, 0, m.few(api.MaxSources), m.source),
		Rules:   many(m, 0, m.few(5), m.rule),
		Excepts: many(m, 0, m.few(20), m.exception),
		Totals:  many(m, 0, m.few(20), m.total),
	}
}

// places: every value within a statute that is no struct.
func places(v reflect.Value) []reflect.Value {
	var all []reflect.Value
	switch v.Kind() {
	case reflect.Struct:
		for i := range v.NumField() {
			all = append(all, places(v.Field(i))...)
		}
	case reflect.Slice:
		all = append(all, v)
		for i := range v.Len() {
			all = append(all, places(v.Index(i))...)
		}
	default:
		all = append(all, v)
	}
	return all
}

// oddTexts: names, what is none, and what would say more than a name.
var oddTexts = []string{"", "a", "b1", "X", "Xy", "5", "-", "a b", " a", "a ", "a\n", "a#", "a.", "a.\nkind b", "b, c", "a(b)", "-a", "a = 5", "a) : c", "X != a", "é", "a\"", "\"", "\x00", "\xff", "a, {a < 1}", "a + b", "2*a",
	"statute", "kind", "member", "pred", "number", "amount", "class", "source", "rank", "rule", "of", "at", "until", "exception", "to", "total", "cap", "a" + strings.Repeat("b", 31), "a" + strings.Repeat("b", 32)}

var oddNumbers = []int64{0, 1, -1, 2, -2, 3, 4, 5, 6, 7, 8, 500, -500, 999, 1000, 1001, -1000, -1001, 3652059, 3652060, money.Most, money.Most + 1, -money.Most, -money.Most - 1, math.MaxInt64, math.MinInt64, math.MinInt64 + 1}

// spoil: one value of a statute becomes another, which may or may not have a form.
func (m *maker) spoil(place reflect.Value) {
	switch place.Kind() {
	case reflect.String:
		place.SetString(pick(m, oddTexts...))
	case reflect.Bool:
		place.SetBool(!place.Bool())
	case reflect.Slice:
		m.spoilList(place)
	default:
		place.SetInt(pick(m, oddNumbers...))
	}
}

func (m *maker) spoilList(list reflect.Value) {
	switch {
	case list.Len() == 0:
		list.Set(reflect.MakeSlice(list.Type(), m.chance.Intn(3), 3))
	case m.maybe():
		list.Set(reflect.AppendSlice(list, list))
	default:
		list.Set(list.Slice(0, m.chance.Intn(list.Len())))
	}
}
