package syntax_test

import (
	"encoding/json"
	"math/rand"
	"strconv"
	"strings"

	"lexprior/api"
	"lexprior/calendar"
	"lexprior/money"
)

// told: a statute as a text, in which nil and empty lists are one.
func told(s api.Statute) string {
	b, err := json.Marshal(s)
	if err != nil {
		return err.Error()
	}
	return strconv.Quote(s.Title) + strings.ReplaceAll(string(b), "null", "[]")
}

// maker makes statutes, and of each the tokens that say it.
type maker struct {
	chance *rand.Rand
	tokens []string
}

func (m *maker) say(tokens ...string) {
	m.tokens = append(m.tokens, tokens...)
}

func (m *maker) maybe() bool {
	return m.chance.Intn(2) == 0
}

func (m *maker) oneOf(list ...string) string {
	return list[m.chance.Intn(len(list))]
}

func (m *maker) name() string {
	name := m.oneOf("p", "q", "r1", "anna", "help", "act", "rules", "atx", "of_", "kind2", "null", "a"+strings.Repeat("z", 31))
	m.say(name)
	return name
}

func (m *maker) argument() string {
	if m.maybe() {
		return m.name()
	}
	name := m.oneOf("X", "Y", "Who", "Kind", "A_1")
	m.say(name)
	return name
}

// many: things with commas between.
func many[T any](m *maker, least, most int, make func() T) []T {
	var things []T
	for i := range least + m.chance.Intn(most-least+1) {
		if i > 0 {
			m.say(",")
		}
		things = append(things, make())
	}
	return things
}

func (m *maker) bracketed(make func() string) []string {
	if m.maybe() {
		return nil
	}
	m.say("(")
	things := many(m, 1, api.MaxArity, make)
	m.say(")")
	return things
}

func (m *maker) money() api.Money {
	amount := []api.Money{0, 1, 50, 100, 1000, 12345, money.Most - 1, money.Most}[m.chance.Intn(8)]
	text, _ := money.Print(amount)
	if amount != 0 && m.maybe() {
		m.say("-")
		amount = -amount
	}
	m.say(text)
	return amount
}

func (m *maker) day() api.Date {
	day := []api.Date{1, 365, 730179, 737821, 3652059}[m.chance.Intn(5)]
	text, _ := calendar.Print(day)
	m.say(text)
	return day
}

func (m *maker) literal() api.LitText {
	var l api.LitText
	if m.maybe() {
		l.Neg = true
		m.say("-")
	}
	l.Pred = m.name()
	l.Args = m.bracketed(m.argument)
	if m.maybe() {
		l.HasValue = true
		m.say("=")
		l.Value = m.money()
	}
	return l
}

// term: one that stands behind a sign, or behind none.
func (m *maker) term(minus bool) api.TermText {
	sign := int64(1)
	if minus {
		sign = -1
	}
	switch m.chance.Intn(3) {
	case 0:
		return api.TermText{Value: api.Money(sign) * m.money()}
	case 1:
		count := []int64{1, 2, 999, 1000}[m.chance.Intn(4)]
		m.say(m.oneOf("", "0", "000")+strconv.FormatInt(count, 10), "*")
		pred := m.name()
		return api.TermText{Coef: sign * count, Pred: pred, Args: m.bracketed(m.argument)}
	}
	pred := m.name()
	return api.TermText{Coef: sign, Pred: pred, Args: m.bracketed(m.argument)}
}

func (m *maker) side() []api.TermText {
	terms := []api.TermText{m.term(false)}
	for range m.chance.Intn(api.MaxTerms) {
		sign := m.oneOf("+", "-")
		m.say(sign)
		terms = append(terms, m.term(sign == "-"))
	}
	return terms
}

func (m *maker) premise() api.PremiseText {
	switch m.chance.Intn(3) {
	case 0:
		m.say("{")
		left := m.side()
		op := m.chance.Intn(6)
		m.say([]string{"<", "<=", "==", "<>", ">=", ">"}[op])
		right := m.side()
		m.say("}")
		return api.PremiseText{Kind: api.PremiseGuard, Guard: api.GuardText{Left: left, Op: api.Op(op + 1), Right: right}}
	case 1:
		a := m.argument()
		m.say("!=")
		return api.PremiseText{Kind: api.PremiseUnlike, A: a, B: m.argument()}
	}
	return api.PremiseText{Kind: api.PremiseLit, Lit: m.literal()}
}

func (m *maker) rule() api.RuleText {
	m.say("rule")
	rule := api.RuleText{Name: m.name()}
	m.say("of")
	rule.Source = m.name()
	m.say("at")
	rule.At = m.day()
	if m.maybe() {
		m.say("until")
		rule.Until = m.day()
	}
	m.say(":")
	most := 3
	if m.chance.Intn(10) == 0 {
		most = api.MaxBody
	}
	rule.Body = many(m, 0, most, m.premise)
	arrow := m.chance.Intn(3)
	m.say([]string{"->", "=>", "~>"}[arrow])
	rule.Arrow = api.Arrow(arrow + 1)
	rule.Head = m.literal()
	return rule
}

func (m *maker) pred() api.PredText {
	sort := m.chance.Intn(3)
	m.say([]string{"pred", "number", "amount"}[sort])
	pred := api.PredText{Name: m.name(), Sort: api.Sort(sort + 1), Kinds: m.bracketed(m.name)}
	if pred.Sort == api.SortAmount {
		m.say(":")
		pred.Values = many(m, 1, 5, m.money)
	}
	return pred
}

func (m *maker) members() []api.MemberText {
	m.say("member")
	names := many(m, 1, 4, m.name)
	m.say(":")
	kind := m.name()
	var members []api.MemberText
	for _, name := range names {
		members = append(members, api.MemberText{Name: name, Kind: kind})
	}
	return members
}

func (m *maker) source() api.SourceText {
	m.say("source")
	name := m.name()
	rank := []int{0, 1, 17, 999, 1000}[m.chance.Intn(5)]
	m.say("rank", m.oneOf("", "0", "00000000000000000000000000")+strconv.Itoa(rank))
	return api.SourceText{Name: name, Rank: rank}
}

func (m *maker) total() api.TotalText {
	m.say("total")
	total := api.TotalText{Name: m.name()}
	m.say("(")
	total.Kind = m.name()
	m.say(")", ":")
	total.Preds = many(m, 1, api.MaxInClass, m.name)
	if m.maybe() {
		total.HasCap = true
		m.say("cap")
		total.Cap = m.money()
	}
	return total
}

// item: one of a kind (0 to 7), and its point.
func (m *maker) item(s *api.Statute, kind int) {
	switch kind {
	case 0:
		m.say("kind")
		s.Kinds = append(s.Kinds, m.name())
	case 1:
		s.Members = append(s.Members, m.members()...)
	case 2:
		s.Preds = append(s.Preds, m.pred())
	case 3:
		m.say("class")
		s.Classes = append(s.Classes, many(m, 2, api.MaxInClass, m.name))
	case 4:
		s.Sources = append(s.Sources, m.source())
	case 5:
		s.Rules = append(s.Rules, m.rule())
	case 6:
		m.say("exception")
		over := m.name()
		m.say("to")
		s.Excepts = append(s.Excepts, api.Exception{Over: over, Under: m.name()})
	case 7:
		s.Totals = append(s.Totals, m.total())
	}
	m.say(".")
}

// made is a statute, and the tokens that say it, a title's and each item's.
type made struct {
	statute api.Statute
	title   []string
	items   [][]string
	kinds   []int // of each item
}

func (m *maker) title(statute *api.Statute) []string {
	statute.Title = m.oneOf("Help", "", ". # é\x00\xff", "kind a.")
	return []string{"statute", `"` + statute.Title + `"`, "."}
}

// someStatutes: the same ones at each call.
func someStatutes(count int, seed int64) []made {
	m := &maker{chance: rand.New(rand.NewSource(seed))}
	all := make([]made, count)
	for i := range all {
		each := &all[i]
		if m.maybe() {
			each.title = m.title(&each.statute)
		}
		for range m.chance.Intn(12) {
			kind := m.chance.Intn(8)
			m.tokens = nil
			m.item(&each.statute, kind)
			each.items = append(each.items, m.tokens)
			each.kinds = append(each.kinds, kind)
		}
	}
	return all
}

func (each made) tokens() []string {
	tokens := append([]string{}, each.title...)
	for _, item := range each.items {
		tokens = append(tokens, item...)
	}
	return tokens
}

// isWordlike: whether the token goes on like a word where another such one stands directly ahead of it, or behind.
func isWordlike(token string) bool {
	c := token[0]
	return c >= 'a' && c <= 'z' || c >= 'A' && c <= 'Z' || c >= '0' && c <= '9'
}

// closed: the tokens with no more between than must be.
func closed(tokens []string) string {
	var b strings.Builder
	for i, token := range tokens {
		if i > 0 && isWordlike(tokens[i-1]) && isWordlike(token) {
			b.WriteString(" ")
		}
		b.WriteString(token)
	}
	return b.String()
}

// gaps is what may stand between tokens; it is the same as one blank.
var gaps = []string{" ", "\n", "\t\r ", " # a remark. kind \"x\n", "\n#\n#\n", "  \n\n  "}

// spread: the tokens with something between all of them, ahead of the first and behind the last.
func spread(chance *rand.Rand, tokens []string) string {
	var b strings.Builder
	for _, token := range tokens {
		b.WriteString(gaps[chance.Intn(len(gaps))])
		b.WriteString(token)
	}
	b.WriteString(gaps[chance.Intn(len(gaps))])
	return b.String()
}
