package syntax_test

import (
	"math/rand"
	"slices"
	"strconv"
	"strings"
	"testing"

	"lexprior/api"
	"lexprior/syntax"
)

// whole has every form that the grammar has.
const whole = `statute "Help". kind person. member anna, ben : person. pred old(person). pred plain. number income(person). amount help(person, person) : 10, - 20.50.
class old, plain, rich. source act rank 2. rule r1 of act at 2001-05-01 until 2002-05-01 : old(X), -rich(X, anna) = -5, {income(X) + 5 - 2*rent(X, Y) < 3*rent - 7}, X != anna, ben != Y => -help(X) = 10.
rule r2 of act at 2001-05-01 : {5 <= a}, {-5 <= a - -6 + -7.50}, {a == 1}, {1 <> a}, {a >= b}, {2 > a} -> p. rule r3 of act at 2001-05-01 : ~> p(anna) = -1. exception r1 to r2. total all(person) : help, more cap 100. total some(person) : help.`

// anyTokens: of every kind, every mark, every word of the grammar, and those with a fault of their own.
func anyTokens() []string {
	marks := strings.Fields("-> => ~> != <= >= == <> < > ( ) { } , . : = - + *")
	others := strings.Fields(`a X 0 1 1000 1001 007 2.5 2.50 0.00 99999999999999999999 10000000000000 10000000000000.01 2001-05-01 2001-02-30 0000-01-01 "" "a" "." "kind"`)
	return slices.Concat(marks, words, others)
}

func parsed(t *testing.T, s string) api.Statute {
	t.Helper()
	statute, errno, at := syntax.Parse(s)
	if errno != api.OK || at != len(s) {
		t.Fatalf("P5.1: Parse(%.3000q): %d, %d", s, errno, at)
	}
	return statute
}

func refused(t *testing.T, s string, errno api.Errno, at int) {
	t.Helper()
	statute, gotErrno, gotAt := syntax.Parse(s)
	if gotErrno != errno || gotAt != at {
		t.Errorf("P5.1: Parse(%.3000q): %d, %d, want %d, %d", s, gotErrno, gotAt, errno, at)
	}
	if told(statute) != told(api.Statute{}) {
		t.Errorf("P5.2: Parse(%.3000q): beside an error there is a statute: %s", s, told(statute))
	}
}

func TestMadeStatutes(t *testing.T) {
	chance := rand.New(rand.NewSource(5))
	for _, each := range someStatutes(3000, 51) {
		for _, s := range []string{closed(each.tokens()), spread(chance, each.tokens())} {
			if len(s) > api.MaxText {
				continue
			}
			if got := told(parsed(t, s)); got != told(each.statute) {
				t.Fatalf("P5.1: Parse(%q): %s, want %s", s, got, told(each.statute))
			}
		}
	}
}

// TestEveryTokenInThePlaceOfEveryOther: in its place, ahead of it, and none in its place.
func TestEveryTokenInThePlaceOfEveryOther(t *testing.T) {
	text := readGrammar()
	tokens := textsOf(t, whole)
	if errno := checkVerdict(t, text, whole); errno != api.OK {
		t.Fatalf("P5.1: the whole text is refused: %d", errno)
	}
	good := 0
	for at := range tokens {
		ahead, behind := tokens[:at], tokens[at+1:]
		checkVerdict(t, text, closed(slices.Concat(ahead, behind)))
		for _, token := range anyTokens() {
			if checkVerdict(t, text, strings.Join(slices.Concat(ahead, []string{token}, behind), " ")) == api.OK {
				good++
			}
			checkVerdict(t, text, strings.Join(slices.Concat(ahead, []string{token}, tokens[at:]), " "))
		}
	}
	if good < 300 {
		t.Errorf("only %d of the texts are read", good)
	}
}

func TestTextsThatEndAtEveryToken(t *testing.T) {
	text := readGrammar()
	tokens := textsOf(t, whole)
	for count := range tokens {
		for _, end := range []string{"", " ", "\n# kind a."} {
			checkVerdict(t, text, closed(tokens[:count])+end)
			checkVerdict(t, text, strings.Join(tokens[:count], " ")+end)
		}
	}
	refused(t, "kind person  # .", api.ErrToken, 16)
	refused(t, "statute \n", api.ErrToken, 9)
}

// TestSpoiltStatutes: one or two tokens of a statute are others, so that there may be two faults: the first is told.
func TestSpoiltStatutes(t *testing.T) {
	text := readGrammar()
	chance := rand.New(rand.NewSource(6))
	others := anyTokens()
	var faults [100]int
	for _, each := range someStatutes(3000, 52) {
		tokens := each.tokens()
		for range min(4, len(tokens)) {
			spoilt := slices.Clone(tokens)
			for range 1 + chance.Intn(2) {
				spoilt[chance.Intn(len(spoilt))] = others[chance.Intn(len(others))]
			}
			faults[checkVerdict(t, text, strings.Join(spoilt, " "))]++
		}
	}
	for _, errno := range []api.Errno{api.OK, api.ErrToken, api.ErrMoney, api.ErrOver, api.ErrRange} {
		if faults[errno] < 5 {
			t.Errorf("only %d of the texts have the error %d", faults[errno], errno)
		}
	}
}

// TestShortTexts: all of a few tokens.
func TestShortTexts(t *testing.T) {
	text := readGrammar()
	all := anyTokens()
	checkVerdict(t, text, "")
	for _, first := range all {
		checkVerdict(t, text, first)
		for _, second := range all {
			checkVerdict(t, text, first+" "+second)
			for _, third := range all {
				checkVerdict(t, text, first+" "+second+" "+third)
			}
		}
	}
}

// TestShortPremises: all of a few tokens, as the body of a rule and within a guard.
func TestShortPremises(t *testing.T) {
	text := readGrammar()
	pieces := strings.Fields("a X rule 5 05 2.5 0 1001 != = - + * < == ( ) { } , => . 2001-01-01")
	for _, form := range []string{"rule r of a at 2001-01-01 : ? => p.", "rule r of a at 2001-01-01 : {a ? } -> p.", "rule r of a at 2001-01-01 : { ? < a} -> p.", "rule r of a at 2001-01-01 : => ? .", "amount a : ? ."} {
		for _, first := range pieces {
			for _, second := range pieces {
				for _, third := range pieces {
					checkVerdict(t, text, strings.ReplaceAll(form, "?", first+" "+second+" "+third))
				}
			}
		}
	}
}

func TestEmptyTexts(t *testing.T) {
	for _, s := range []string{"", " ", "\t\r\n", "# a", "#\n # kind a.\n\n", "statute \"\"."} {
		if got := told(parsed(t, s)); got != told(api.Statute{}) {
			t.Errorf("P5.1: Parse(%q): %s", s, got)
		}
	}
}

func TestTitles(t *testing.T) {
	for _, title := range []string{"Help", " a  b ", "# . kind a.", "é\x00\xff", strings.Repeat("x", api.MaxText-11)} {
		s := "statute\"" + title + "\"."
		if got := parsed(t, s); told(got) != told(api.Statute{Title: title}) {
			t.Errorf("P5.1: Parse(%.100q): the title %.100q", s, got.Title)
		}
	}
	refused(t, "statute help.", api.ErrToken, 8)
	refused(t, "statute \"a\" kind b.", api.ErrToken, 12)
	refused(t, "kind a. statute \"a\".", api.ErrToken, 8)
	refused(t, "statute \"a\". statute \"b\".", api.ErrToken, 13)
	refused(t, "\"a\".", api.ErrToken, 0)
}

// TestItems: each in its shortest form, and with all that it may have.
func TestItems(t *testing.T) {
	for s, want := range map[string]api.Statute{
		"kind a.":                           {Kinds: []string{"a"}},
		"member a:b.":                       {Members: []api.MemberText{{Name: "a", Kind: "b"}}},
		"member a,b,a:b.":                   {Members: []api.MemberText{{Name: "a", Kind: "b"}, {Name: "b", Kind: "b"}, {Name: "a", Kind: "b"}}},
		"pred a.":                           {Preds: []api.PredText{{Name: "a", Sort: api.SortPlain}}},
		"pred a(b,c,b,d).":                  {Preds: []api.PredText{{Name: "a", Sort: api.SortPlain, Kinds: []string{"b", "c", "b", "d"}}}},
		"number a.":                         {Preds: []api.PredText{{Name: "a", Sort: api.SortNumber}}},
		"number a(b).":                      {Preds: []api.PredText{{Name: "a", Sort: api.SortNumber, Kinds: []string{"b"}}}},
		"amount a:0.":                       {Preds: []api.PredText{{Name: "a", Sort: api.SortAmount, Values: []api.Money{0}}}},
		"amount a(b,c):1,-2.05,0.50.":       {Preds: []api.PredText{{Name: "a", Sort: api.SortAmount, Kinds: []string{"b", "c"}, Values: []api.Money{100, -205, 50}}}},
		"class a,b.":                        {Classes: [][]string{{"a", "b"}}},
		"class a,b,a.class c,d.":            {Classes: [][]string{{"a", "b", "a"}, {"c", "d"}}},
		"source a rank 0.":                  {Sources: []api.SourceText{{Name: "a"}}},
		"exception a to b.":                 {Excepts: []api.Exception{{Over: "a", Under: "b"}}},
		"total a(b):c.":                     {Totals: []api.TotalText{{Name: "a", Kind: "b", Preds: []string{"c"}}}},
		"total a(b):c,d,c cap-0.01.":        {Totals: []api.TotalText{{Name: "a", Kind: "b", Preds: []string{"c", "d", "c"}, HasCap: true, Cap: -1}}},
		"total a(b):c cap 0.":               {Totals: []api.TotalText{{Name: "a", Kind: "b", Preds: []string{"c"}, HasCap: true}}},
		"kind a.pred b.kind a.number b.":    {Kinds: []string{"a", "a"}, Preds: []api.PredText{{Name: "b", Sort: api.SortPlain}, {Name: "b", Sort: api.SortNumber}}},
		"rule a of b at 0001-01-01:->c.":    {Rules: []api.RuleText{{Name: "a", Source: "b", At: 1, Arrow: api.Strict, Head: api.LitText{Pred: "c"}}}},
		"rule a of b at 9999-12-31:~>-c=0.": {Rules: []api.RuleText{{Name: "a", Source: "b", At: 3652059, Arrow: api.Defeater, Head: api.LitText{Neg: true, Pred: "c", HasValue: true}}}},
	} {
		if got := told(parsed(t, s)); got != told(want) {
			t.Errorf("P5.1: Parse(%q): %s, want %s", s, got, told(want))
		}
	}
}

// ruleOf: the one rule of a text.
func ruleOf(t *testing.T, s string) api.RuleText {
	t.Helper()
	statute := parsed(t, s)
	if len(statute.Rules) != 1 || told(statute) != told(api.Statute{Rules: statute.Rules}) {
		t.Fatalf("P5.1: Parse(%q): %s", s, told(statute))
	}
	return statute.Rules[0]
}

// bodyOf: the premises of a rule that has this body.
func bodyOf(t *testing.T, body string) []api.PremiseText {
	t.Helper()
	return ruleOf(t, "rule r of a at 2001-01-01:"+body+"=>p.").Body
}

// bodies: as one text.
func bodies(l []api.PremiseText) string {
	return told(api.Statute{Rules: []api.RuleText{{Body: l}}})
}

func TestPremises(t *testing.T) {
	lit := func(l api.LitText) api.PremiseText { return api.PremiseText{Kind: api.PremiseLit, Lit: l} }
	unlike := func(a, b string) api.PremiseText { return api.PremiseText{Kind: api.PremiseUnlike, A: a, B: b} }
	for body, want := range map[string][]api.PremiseText{
		"":                      nil,
		"p":                     {lit(api.LitText{Pred: "p"})},
		"-p(X,anna,Y,X)=-12.34": {lit(api.LitText{Neg: true, Pred: "p", Args: []string{"X", "anna", "Y", "X"}, HasValue: true, Value: -1234})},
		"p=0":                   {lit(api.LitText{Pred: "p", HasValue: true})},
		"p(X),-q":               {lit(api.LitText{Pred: "p", Args: []string{"X"}}), lit(api.LitText{Neg: true, Pred: "q"})},
		"X!=Y":                  {unlike("X", "Y")},
		"X!=anna,anna!=X":       {unlike("X", "anna"), unlike("anna", "X")},
		"p,p!=p,p":              {lit(api.LitText{Pred: "p"}), unlike("p", "p"), lit(api.LitText{Pred: "p"})},
	} {
		if got := bodyOf(t, body); bodies(got) != bodies(want) {
			t.Errorf("P5.1: the body %q: %s, want %s", body, bodies(got), bodies(want))
		}
	}
}

func TestUntil(t *testing.T) {
	with := ruleOf(t, "rule r of a at 2001-01-01 until 2001-01-31 : => p.")
	without := ruleOf(t, "rule r of a at 2001-01-01 : => p.")
	if with.Until != with.At+30 || without.Until != 0 || with.At != without.At {
		t.Errorf("P5.1: until: %d, %d; %d, %d", with.At, with.Until, without.At, without.Until)
	}
	if early := ruleOf(t, "rule r of a at 2001-01-01 until 0001-01-01 : => p."); early.Until != 1 {
		t.Errorf("P5.1: until a day ahead of at, which is not asked here: %d", early.Until)
	}
	refused(t, "rule r of a at 2001-01-01 until : => p.", api.ErrToken, 32)
	refused(t, "rule r of a until 2001-01-01 : => p.", api.ErrToken, 12)
}

// TestDatesThatAreNoDay: a statute can't hold them.
func TestDatesThatAreNoDay(t *testing.T) {
	for _, date := range []string{"2001-02-29", "0000-01-01", "2001-13-01", "2001-00-01", "2001-01-00", "2001-04-31"} {
		refused(t, "rule r of a at "+date+" : => p.", api.ErrToken, 15)
		refused(t, "rule r of a at 2001-01-01 until "+date+" : => p.", api.ErrToken, 32)
	}
}

func TestGuards(t *testing.T) {
	money := func(m api.Money) api.TermText { return api.TermText{Value: m} }
	pred := func(count int64, name string, args ...string) api.TermText {
		return api.TermText{Coef: count, Pred: name, Args: args}
	}
	for body, want := range map[string]api.GuardText{
		"{a<b}":                     {Left: []api.TermText{pred(1, "a")}, Op: api.OpLess, Right: []api.TermText{pred(1, "b")}},
		"{1<=2.50}":                 {Left: []api.TermText{money(100)}, Op: api.OpMost, Right: []api.TermText{money(250)}},
		"{a-1==0-b}":                {Left: []api.TermText{pred(1, "a"), money(-100)}, Op: api.OpEqual, Right: []api.TermText{money(0), pred(-1, "b")}},
		"{a-0<>a-0.05}":             {Left: []api.TermText{pred(1, "a"), money(0)}, Op: api.OpUnequal, Right: []api.TermText{pred(1, "a"), money(-5)}},
		"{5*a(X)-6*b(Y,c)>=7+8*a}":  {Left: []api.TermText{pred(5, "a", "X"), pred(-6, "b", "Y", "c")}, Op: api.OpLeast, Right: []api.TermText{money(700), pred(8, "a")}},
		"{1*a+1000*a>a-1*a-1000*a}": {Left: []api.TermText{pred(1, "a"), pred(1000, "a")}, Op: api.OpMore, Right: []api.TermText{pred(1, "a"), pred(-1, "a"), pred(-1000, "a")}},
		"{a-b+c<a-b-c}":             {Left: []api.TermText{pred(1, "a"), pred(-1, "b"), pred(1, "c")}, Op: api.OpLess, Right: []api.TermText{pred(1, "a"), pred(-1, "b"), pred(-1, "c")}},
		"{-5<1}":                    {Left: []api.TermText{money(-500)}, Op: api.OpLess, Right: []api.TermText{money(100)}},
		"{-5+a<-0.01-a}":            {Left: []api.TermText{money(-500), pred(1, "a")}, Op: api.OpLess, Right: []api.TermText{money(-1), pred(-1, "a")}},
		"{a+-5.50<a - -5}":          {Left: []api.TermText{pred(1, "a"), money(-550)}, Op: api.OpLess, Right: []api.TermText{pred(1, "a"), money(500)}},
		"{a-- 5+5<a+ -5-5--5}":      {Left: []api.TermText{pred(1, "a"), money(500), money(500)}, Op: api.OpLess, Right: []api.TermText{pred(1, "a"), money(-500), money(-500), money(500)}},
		"{a--1-b<-1+b}":             {Left: []api.TermText{pred(1, "a"), money(100), pred(-1, "b")}, Op: api.OpLess, Right: []api.TermText{money(-100), pred(1, "b")}},
		"{a-b<c}":                   {Left: []api.TermText{pred(1, "a"), pred(-1, "b")}, Op: api.OpLess, Right: []api.TermText{pred(1, "c")}},
	} {
		got, want := bodyOf(t, body), []api.PremiseText{{Kind: api.PremiseGuard, Guard: want}}
		if bodies(got) != bodies(want) {
			t.Errorf("P5.1: the body %q: %s, want %s", body, bodies(got), bodies(want))
		}
	}
}

func TestGuardsThatAreNone(t *testing.T) {
	for _, each := range []struct {
		body string
		at   int
	}{{"{}", 1}, {"{a}", 2}, {"{<a}", 1}, {"{a<}", 3}, {"{-", 2}, {"{-a<b}", 2}, {"{a<-b}", 4}, {"{-X<b}", 2}, {"{--1<b}", 2}, {"{-+1<b}", 2}, {"{+1<b}", 1}, {"{-(1)<b}", 2}, {"{-2*a<b}", 3}, {"{a<-2*a}", 5}, {"{a+-2*a<b}", 5}, {"{a+-", 4}, {"{a--a<b}", 4}, {"{a---1<b}", 4}, {"{a<-", 4}, {"{a<-}", 4}, {"{a-<b}", 3}, {"{a+<b}", 3}, {"{a<b<c}", 4}, {"{a=b}", 2}, {"{a!=b}", 2}, {"{2a<b}", 2}, {"{a*2<b}", 2}, {"{2*3<b}", 3}, {"{2*X<b}", 3}, {"{X<b}", 1}, {"{p(X)=1<b}", 5}, {"{a->b}", 2}, {"{(a)<b}", 1}, {"{a<b", 4}, {"{a()<b}", 3}} {
		errno := api.ErrToken
		if each.body == "{2a<b}" {
			errno = api.ErrByte
		}
		s := "rule r of a at 2001-01-01:" + each.body
		refused(t, s, errno, 26+each.at)
	}
}

// TestWordsAsNames: each is refused wherever something is named, and what only begins or ends like one is not.
func TestWordsAsNames(t *testing.T) {
	forms := strings.Split("kind ?.|member ?:a.|member a,?:a.|member a:?.|pred ?.|number ?.|amount ?:1.|pred a(?).|number a(a,?).|amount a(?):1.|"+
		"class ?,a.|class a,?.|class a,a,?.|source ? rank 1.|exception ? to a.|exception a to ?.|total ?(a):a.|total a(?):a.|total a(a):?.|total a(a):a,?.|"+
		"rule ? of a at 2001-01-01:=>p.|rule a of ? at 2001-01-01:=>p.|rule a of a at 2001-01-01:=>?.|rule a of a at 2001-01-01:=>-?.|"+
		"rule a of a at 2001-01-01:?=>p.|rule a of a at 2001-01-01:p,?=>p.|rule a of a at 2001-01-01:p(?)=>p.|rule a of a at 2001-01-01:p(X,?)=>p.|"+
		"rule a of a at 2001-01-01:?!=X=>p.|rule a of a at 2001-01-01:X!=?=>p.|rule a of a at 2001-01-01:{?<1}=>p.|rule a of a at 2001-01-01:{2*?<1}=>p.|"+
		"rule a of a at 2001-01-01:{1<a(?)}=>p.|rule a of a at 2001-01-01:{1<1+?}=>p.|rule a of a at 2001-01-01:=>p(?).", "|")
	for _, form := range forms {
		at := strings.Index(form, "?")
		for _, word := range words {
			refused(t, strings.ReplaceAll(form, "?", word), api.ErrToken, at)
			for _, name := range []string{word + "s", word + "_", word + "1", "a" + word, word[1:]} {
				if !slices.Contains(words, name) {
					parsed(t, strings.ReplaceAll(form, "?", name))
				}
			}
		}
	}
	for _, word := range words {
		if word == "statute" {
			continue
		}
		variable := strings.ToUpper(word[:1]) + word[1:]
		if got := bodyOf(t, variable+"!="+variable); got[0].A != variable || got[0].B != variable {
			t.Errorf("P5.1: the variable %s: %v", variable, got)
		}
	}
}

// TestMoneys: wherever one stands.
func TestMoneys(t *testing.T) {
	forms := strings.Split("amount a:?.|amount a:1,?.|total a(a):a cap ?.|rule a of a at 2001-01-01:p=?=>p.|rule a of a at 2001-01-01:=>p=?.|"+
		"rule a of a at 2001-01-01:{?<1}=>p.|rule a of a at 2001-01-01:{1<?}=>p.|rule a of a at 2001-01-01:{a+?<1}=>p.|rule a of a at 2001-01-01:{1<a-?}=>p.", "|")
	faults := map[string]api.Errno{
		"01": api.ErrMoney, "00": api.ErrMoney, "1.5": api.ErrMoney, "1.00": api.ErrMoney, "1.500": api.ErrMoney, "0.00": api.ErrMoney,
		"10000000000000.01": api.ErrOver, "10000000000001": api.ErrOver, strings.Repeat("9", 1000): api.ErrOver,
	}
	good := []string{"0", "1", "0.01", "0.10", "120.50", "10000000000000", "9999999999999.99"}
	for _, form := range forms {
		at := strings.Index(form, "?")
		for number, errno := range faults {
			refused(t, strings.ReplaceAll(form, "?", number), errno, at)
		}
		for _, number := range good {
			parsed(t, strings.ReplaceAll(form, "?", number))
		}
		refused(t, strings.ReplaceAll(form, "?", "2001-01-01"), api.ErrToken, at)
		refused(t, strings.ReplaceAll(form, "?", "+1"), api.ErrToken, at)
		refused(t, strings.ReplaceAll(form, "?", "\"1\""), api.ErrToken, at)
		for number, errno := range faults {
			refused(t, strings.ReplaceAll(form, "?", "- "+number), errno, at+2)
		}
		for _, number := range good[1:] {
			parsed(t, strings.ReplaceAll(form, "?", "-"+number))
		}
		refused(t, strings.ReplaceAll(form, "?", "-0"), api.ErrMoney, at+1)
		refused(t, strings.ReplaceAll(form, "?", "--1"), api.ErrToken, at+1)
		refused(t, strings.ReplaceAll(form, "?", "-a"), api.ErrToken, at+1)
	}
}

func TestRanks(t *testing.T) {
	for rank, want := range map[string]int{"0": 0, "1": 1, "00": 0, "0017": 17, "999": 999, "1000": 1000, strings.Repeat("0", 1000) + "1000": 1000} {
		if s := parsed(t, "source a rank "+rank+"."); s.Sources[0] != (api.SourceText{Name: "a", Rank: want}) {
			t.Errorf("P5.1: the rank %s: %v", rank, s.Sources)
		}
	}
	for _, rank := range []string{"1001", "01001", "9223372036854775808", strings.Repeat("9", 1000)} {
		refused(t, "source a rank "+rank+".", api.ErrRange, 14)
	}
	for _, rank := range []string{"1.5", "1.0", "1000.0", "1001.0", "0.00", "-1", "X", "a", "2001-01-01", "\"1\""} {
		refused(t, "source a rank "+rank+".", api.ErrToken, 14)
	}
}

func TestIntegers(t *testing.T) {
	for _, form := range []string{"{?*a<1}", "{a+?*a<1}", "{1<?*a}", "{1<1-?*a}"} {
		s := "rule r of a at 2001-01-01:" + form + "=>p."
		at := strings.Index(s, "?")
		for _, count := range []string{"1", "01", "2", "1000", "0001000"} {
			parsed(t, strings.ReplaceAll(s, "?", count))
		}
		for _, count := range []string{"0", "00", "1001", "18446744073709551617", strings.Repeat("9", 1000)} {
			refused(t, strings.ReplaceAll(s, "?", count), api.ErrRange, at)
		}
		for _, count := range []string{"1.5", "1.0", "2.50", "1001.0", "0.0"} {
			refused(t, strings.ReplaceAll(s, "?", count), api.ErrToken, at)
		}
	}
}

// TestVarsAheadOfOtherMarks: what follows a var says whether it begins a premise.
func TestVarsAheadOfOtherMarks(t *testing.T) {
	for _, rest := range []string{"", " ", ".", "=>p.", ",X!=Y=>p.", "=1=>p.", "(a)=>p.", "X!=Y=>p."} {
		refused(t, "rule r of a at 2001-01-01:X"+" "+rest, api.ErrToken, 26)
		refused(t, "rule r of a at 2001-01-01:p,X"+" "+rest, api.ErrToken, 28)
	}
	refused(t, "rule r of a at 2001-01-01:p(X)!=Y=>p.", api.ErrToken, 30)
	refused(t, "rule r of a at 2001-01-01:-X!=Y=>p.", api.ErrToken, 27)
	refused(t, "rule r of a at 2001-01-01:-x!=Y=>p.", api.ErrToken, 28)
	refused(t, "rule r of a at 2001-01-01:{!=Y=>p.", api.ErrToken, 27)
	refused(t, "rule r of a at 2001-01-01:1!=Y=>p.", api.ErrToken, 26)
	refused(t, "rule r of a at 2001-01-01:=>X!=Y.", api.ErrToken, 28)
	refused(t, "rule r of a at 2001-01-01:=>x!=Y.", api.ErrToken, 29)
}

func TestTextsWithoutTokens(t *testing.T) {
	refused(t, "kind a. ?", api.ErrByte, 8)
	refused(t, "rule rule rule 12x", api.ErrByte, 17)
	refused(t, "kind kind. \"", api.ErrQuote, 11)
	refused(t, "kind "+strings.Repeat("a", 33)+".", api.ErrLong, 5)
	refused(t, "kind kind."+strings.Repeat(" ", api.MaxText), api.ErrLong, 0)
	refused(t, strings.Repeat(" ", api.MaxText+1), api.ErrLong, 0)
	parsed(t, "kind a."+strings.Repeat(" ", api.MaxText-7))
	refused(t, "kind a"+strings.Repeat(" ", api.MaxText-6), api.ErrToken, api.MaxText)
}

func TestTwoFaults(t *testing.T) {
	refused(t, "source a rank 1001. kind kind.", api.ErrRange, 14)
	refused(t, "kind kind. source a rank 1001.", api.ErrToken, 5)
	refused(t, "amount a : 01, 99999999999999.", api.ErrMoney, 11)
	refused(t, "amount a : 99999999999999, 01.", api.ErrOver, 11)
	refused(t, "amount a : 01 kind", api.ErrMoney, 11)
	refused(t, "rule r of a at 2001-01-01 : {1001 * 5 < } => p.", api.ErrRange, 29)
	refused(t, "rule r of a at 2001-01-01 : {2.5 * 5 < } => p.", api.ErrToken, 29)
}

// numbered: a thing so many times, each with a number of its own for the ?.
func numbered(thing, between string, count int) string {
	all := make([]string, count)
	for i := range all {
		all[i] = strings.ReplaceAll(thing, "?", strconv.Itoa(i))
	}
	return strings.Join(all, between)
}
