package printer_test

import (
	"reflect"
	"strconv"
	"sync"
	"testing"
	"unsafe"

	"lexprior/api"
	"lexprior/printer"
)

// loose: bytes, and the text that they are, so that the text can become another behind a call.
func loose(s string) ([]byte, string) {
	b := []byte(s)
	return b, unsafe.String(unsafe.SliceData(b), len(b))
}

// someRule has all that a rule may have.
func someRule() api.RuleText {
	x := []string{"X", "anna"}
	return api.RuleText{Name: "r", Source: "s", At: 1, Until: 2, Arrow: api.Strict, Head: api.LitText{Pred: "p", Args: x}, Body: []api.PremiseText{
		{Kind: api.PremiseLit, Lit: api.LitText{Neg: true, Pred: "q", Args: x, HasValue: true, Value: -5}},
		{Kind: api.PremiseGuard, Guard: api.GuardText{Left: sum(cents(-1), times(-2, x...)), Op: api.OpMost, Right: sum(times(3, x...), cents(-7))}},
		{Kind: api.PremiseUnlike, A: "X", B: "Y"},
	}}
}

func someStatute() api.Statute {
	two := []string{"a", "b"}
	return api.Statute{
		Title: "Help", Kinds: two, Members: []api.MemberText{{Name: "m", Kind: "k"}}, Preds: []api.PredText{{Name: "n", Sort: api.SortAmount, Kinds: two, Values: []api.Money{1, -2}}},
		Classes: [][]string{two, two}, Sources: []api.SourceText{{Name: "s", Rank: 1}}, Rules: []api.RuleText{someRule(), someRule()}, Excepts: []api.Exception{{Over: "a", Under: "b"}},
		Totals: []api.TotalText{{Name: "t", Kind: "k", Preds: two, HasCap: true, Cap: -1}},
	}
}

// stretch is a piece of memory.
type stretch struct{ from, to uintptr }

func (a stretch) meets(b stretch) bool {
	return a.from < b.to && b.from < a.to
}

func stretchOf(s string) stretch {
	from := uintptr(unsafe.Pointer(unsafe.StringData(s)))
	return stretch{from, from + uintptr(len(s))}
}

// texts: of a value all texts that are not empty.
func texts(v reflect.Value) []stretch {
	var all []stretch
	for _, place := range places(v) {
		if place.Kind() == reflect.String && place.Len() > 0 {
			all = append(all, stretchOf(place.String()))
		}
	}
	return all
}

// checkKeeps: an argument stays as it was, and the answers share no memory with it, nor with each other.
func checkKeeps[T any](t *testing.T, name string, argument T, call func(T) string) {
	t.Helper()
	was := copied(argument)
	first, second := call(argument), call(argument)
	if !same(argument, was) {
		t.Errorf("P6.7: %s changed its argument: %+v, was %+v", name, argument, was)
	}
	if first == "" || first != second {
		t.Errorf("P3: %s: %q, then %q", name, first, second)
	}
	for _, other := range append(texts(reflect.ValueOf(argument)), stretchOf(second)) {
		if stretchOf(first).meets(other) {
			t.Errorf("P6.7: %s shares memory with its argument, or with another answer", name)
		}
	}
}

func printText(s api.Statute) string {
	form, _ := printer.Print(s)
	return form
}

func ruleText(r api.RuleText) string {
	form, _ := printer.Rule(r)
	return form
}

func literalText(l api.LitText) string {
	form, _ := printer.Literal(l)
	return form
}

func guardText(g api.GuardText) string {
	form, _ := printer.Guard(g)
	return form
}

func normalText(text string) string {
	form, _, _ := printer.Normal(text)
	return form
}

func TestMemory(t *testing.T) {
	m := newMaker(71)
	checkKeeps(t, "Print", someStatute(), printText)
	checkKeeps(t, "Print", api.Statute{Title: "a"}, printText)
	checkKeeps(t, "Rule", someRule(), ruleText)
	checkKeeps(t, "Literal", someRule().Body[0].Lit, literalText)
	checkKeeps(t, "Guard", someRule().Body[1].Guard, guardText)
	_, p := loose("help")
	checkKeeps(t, "Literal", api.LitText{Pred: p}, literalText)
	_, form := loose(printText(someStatute()))
	checkKeeps(t, "Normal", form, normalText)
	for range 100 {
		checkKeeps(t, "Rule", m.rule(), ruleText)
		checkKeeps(t, "Literal", m.literal(), literalText)
		checkKeeps(t, "Guard", m.guard(), guardText)
	}
}

// TestListsBeyondTheirEndAreNotChanged: what stands in a list's memory behind its end is not the call's, either.
func TestListsBeyondTheirEndAreNotChanged(t *testing.T) {
	rules := []api.RuleText{someRule(), someRule()}
	terms := sum(times(1), cents(5), cents(-5))
	rules[0].Body[1].Guard.Left = terms[:1]
	s := api.Statute{Rules: rules[:1]}
	printText(s)
	guardText(rules[0].Body[1].Guard)
	if !same(rules[1], someRule()) || !same(terms, sum(times(1), cents(5), cents(-5))) {
		t.Errorf("P6.7: what stands behind a list's end was changed: %+v, %+v", rules, terms)
	}
}

// TestAnswersStay: a text that becomes another behind the call leaves the answer as it was.
func TestAnswersStay(t *testing.T) {
	b, text := loose("kind person. pred p(person).")
	form, _, _ := printer.Normal(text)
	name, p := loose("help")
	literal, _ := printer.Literal(api.LitText{Pred: p})
	copy(b, "????????????????????????????")
	copy(name, "????")
	if form != "kind person.\npred p(person).\n" || literal != "help" {
		t.Errorf("P6.7: the answers became %q, %q", form, literal)
	}
}

// answers: of all calls, told in one text.
func answers(s api.Statute, text string) string {
	form, errno := printer.Print(s)
	all := form + strconv.Itoa(int(errno))
	for _, r := range s.Rules {
		line, errno := printer.Rule(r)
		head, headErrno := printer.Literal(r.Head)
		all += line + strconv.Itoa(int(errno)) + head + strconv.Itoa(int(headErrno))
		for _, p := range r.Body {
			guard, errno := printer.Guard(p.Guard)
			all += guard + strconv.Itoa(int(errno))
		}
	}
	normal, errno, at := printer.Normal(text)
	return all + normal + strconv.Itoa(int(errno)) + strconv.Itoa(at)
}

// TestSameAnswers: the same arguments have the same answers, alone and beside other calls.
func TestSameAnswers(t *testing.T) {
	m := newMaker(72)
	var statutes []api.Statute
	var wanted, given []string
	for range 200 {
		s := copied(m.statute())
		text := printText(s)
		if m.maybe() {
			all := places(reflect.ValueOf(&s).Elem())
			m.spoil(all[m.chance.Intn(len(all))])
			text += "kind"
		}
		statutes, given, wanted = append(statutes, s), append(given, text), append(wanted, answers(s, text))
	}
	var workers sync.WaitGroup
	for range 4 {
		workers.Go(func() {
			for i, s := range statutes {
				if got := answers(s, given[i]); got != wanted[i] {
					t.Errorf("P3: of %+v another answer: %s, then %s", s, wanted[i], got)
				}
			}
		})
	}
	workers.Wait()
}

// TestZeroValues: what no call made is answered, too.
func TestZeroValues(t *testing.T) {
	if form, errno := printer.Rule(api.RuleText{}); form != "" || errno != api.ErrForm {
		t.Errorf("P1: Rule of nothing: %q, %d", form, errno)
	}
	if form, errno := printer.Literal(api.LitText{}); form != "" || errno != api.ErrForm {
		t.Errorf("P1: Literal of nothing: %q, %d", form, errno)
	}
	if form, errno := printer.Guard(api.GuardText{}); form != "" || errno != api.ErrForm {
		t.Errorf("P1: Guard of nothing: %q, %d", form, errno)
	}
	refused(t, api.Statute{Kinds: []string{""}}, api.ErrForm)
	refused(t, api.Statute{Members: make([]api.MemberText, 1)}, api.ErrForm)
	refused(t, api.Statute{Preds: make([]api.PredText, 1)}, api.ErrForm)
	refused(t, api.Statute{Classes: make([][]string, 1)}, api.ErrForm)
	refused(t, api.Statute{Sources: make([]api.SourceText, 1)}, api.ErrForm)
	refused(t, api.Statute{Rules: make([]api.RuleText, 1)}, api.ErrForm)
	refused(t, api.Statute{Excepts: make([]api.Exception, 1)}, api.ErrForm)
	refused(t, api.Statute{Totals: make([]api.TotalText, 1)}, api.ErrForm)
}
