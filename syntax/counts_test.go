package syntax_test

import (
	"strings"
	"testing"

	"lexprior/api"
)

// counted is a list with a limit: what stands ahead of it, a thing of it, what stands between and behind, and where in a thing its first token stands.
type counted struct {
	ahead, thing, between, behind string
	most, begins                  int
}

func allCounted() []counted {
	body := "rule r of a at 2001-01-01:"
	return []counted{
		{"", "kind a?.", "", "", 16, 5},
		{"", "member a?:b.", "", "", 64, 7},
		{"member ", "a?", ",", ":b.", 64, 0},
		{"member x:y.member ", "a?", ",", ":b.", 63, 0},
		{"", "pred a?.", "", "", 256, 5},
		{"", "number a?(b).", "", "", 256, 7},
		{"", "amount a?:1.", "", "", 256, 7},
		{"number x.amount y:1.", "pred a?.", "", "", 254, 5},
		{"pred a(", "b?", ",", ").", 4, 0},
		{"number a(", "b?", ",", ").", 4, 0},
		{"amount a(", "b?", ",", "):1.", 4, 0},
		{"amount a:", "1?", ",", ".", 64, 0},
		{"amount a:", "-1?", ",", ".", 64, 0},
		{"", "class a?,b?.", "", "", 64, 6},
		{"class ", "a?", ",", ".", 16, 0},
		{"", "source a? rank 7.", "", "", 64, 7},
		{"", "rule a? of b at 2001-01-01:=>p.", "", "", 512, 5},
		{body, "p?", ",", "=>p.", 16, 0},
		{body, "-p?", ",", "=>p.", 16, 0},
		{body, "p?!=a", ",", "=>p.", 16, 0},
		{body, "X!=a?", ",", "=>p.", 16, 0},
		{body, "{p?<1}", ",", "=>p.", 16, 0},
		{body + "p(", "X?", ",", ")=>p.", 4, 0},
		{body + "=>p(", "b?", ",", ").", 4, 0},
		{body + "{p(", "b?", ",", ")<1}=>p.", 4, 0},
		{body + "{1<2*p(", "X?", ",", ")}=>p.", 4, 0},
		{body + "{", "p?", "+", "<1}=>p.", 8, 0},
		{body + "{", "p?", "-", "<1}=>p.", 8, 0},
		{body + "{", "7*p?", "-", "<1}=>p.", 8, 0},
		{body + "{1<", "p?", "-", "}=>p.", 8, 0},
		{body + "{1<", "1?", "+", "}=>p.", 8, 0},
		{body + "{", "-1?", "+", "<1}=>p.", 8, 0},
		{body + "{1<", "-1?", "-", "}=>p.", 8, 0},
		{body + "{a+a+a+a+a+a+a+a<", "1?", "+", "}=>p.", 8, 0},
		{"", "exception a? to b.", "", "", 512, 10},
		{"", "total a?(b):c.", "", "", 64, 6},
		{"total a(b):", "c?", ",", ".", 16, 0},
		{"total a(b):", "c?", ",", " cap 5.", 16, 0},
	}
}

func TestCounts(t *testing.T) {
	text := readGrammar()
	for _, each := range allCounted() {
		full := each.ahead + numbered(each.thing, each.between, each.most)
		parsed(t, full+each.behind)
		checkVerdict(t, text, full+each.behind)
		one := strings.ReplaceAll(each.thing, "?", "9")
		at := len(full) + len(each.between) + each.begins
		refused(t, full+each.between+one+each.behind, api.ErrCount, at)
		refused(t, full+each.between+one, api.ErrCount, at)
		refused(t, full+each.between+one+each.between+one+each.behind, api.ErrCount, at)
		for end := range one {
			checkVerdict(t, text, full+each.between+one[:end])
		}
		for _, token := range anyTokens() {
			checkVerdict(t, text, full+each.between+one[:each.begins]+" "+token)
			checkVerdict(t, text, full+each.between+one[:each.begins]+" "+token+" * a < 2")
			checkVerdict(t, text, full+each.between+one[:each.begins]+" "+token+" != a")
		}
	}
}

// TestCountsOfEachItem: a list that is full in one item leaves the next one's as it was.
func TestCountsOfEachItem(t *testing.T) {
	item := "rule r of a at 2001-01-01:" + numbered("p(a,b,c,d)", ",", 15) + ",{" + numbered("q(a,b,c,d)", "+", 8) + "<" + numbered("7", "-", 8) + "}=>q(a,b,c,d)."
	item += "class " + numbered("a?", ",", 16) + ".total a(b):" + numbered("c?", ",", 16) + ".amount a(b,c,d,e):" + numbered("?", ",", 64) + "."
	s := parsed(t, strings.Repeat(item, 20))
	if len(s.Rules) != 20 || len(s.Classes) != 20 || len(s.Totals) != 20 || len(s.Preds) != 20 {
		t.Errorf("P5.1: full items: %d, %d, %d, %d", len(s.Rules), len(s.Classes), len(s.Totals), len(s.Preds))
	}
}

// TestFaultsAheadOfCounts: of the token that begins one too many, each other fault is told first; of a later token none is.
func TestFaultsAheadOfCounts(t *testing.T) {
	kinds := numbered("kind a?.", "", 16)
	refused(t, kinds+"kind kind.", api.ErrToken, len(kinds)+5)
	refused(t, kinds+"kind", api.ErrToken, len(kinds)+4)
	refused(t, kinds+"kind X.", api.ErrToken, len(kinds)+5)
	refused(t, kinds+"kind b kind.", api.ErrCount, len(kinds)+5)
	values := "amount a:" + numbered("?", ",", 64)
	refused(t, values+",01.", api.ErrMoney, len(values)+1)
	refused(t, values+",99999999999999.", api.ErrOver, len(values)+1)
	refused(t, values+",a.", api.ErrToken, len(values)+1)
	refused(t, values+",-01.", api.ErrCount, len(values)+1)
	refused(t, values+",-a.", api.ErrCount, len(values)+1)
	terms := "rule r of a at 2001-01-01:{" + numbered("p?", "+", 8)
	refused(t, terms+"+1001*p<1}=>p.", api.ErrRange, len(terms)+1)
	refused(t, terms+"+0*p<1}=>p.", api.ErrRange, len(terms)+1)
	refused(t, terms+"+2.5*p<1}=>p.", api.ErrToken, len(terms)+1)
	refused(t, terms+"+01<1}=>p.", api.ErrMoney, len(terms)+1)
	refused(t, terms+"+rule<1}=>p.", api.ErrToken, len(terms)+1)
	refused(t, terms+"+7*rule<1}=>p.", api.ErrCount, len(terms)+1)
	refused(t, terms+"+-01<1}=>p.", api.ErrCount, len(terms)+1)
	refused(t, terms+"--a<1}=>p.", api.ErrCount, len(terms)+1)
	premises := "rule r of a at 2001-01-01:" + numbered("p?", ",", 16)
	refused(t, premises+",X=>p.", api.ErrToken, len(premises)+1)
	refused(t, premises+",X!=kind=>p.", api.ErrCount, len(premises)+1)
	refused(t, premises+",=>p.", api.ErrToken, len(premises)+1)
	refused(t, premises+",{", api.ErrCount, len(premises)+1)
	refused(t, premises+",-", api.ErrCount, len(premises)+1)
	classes := numbered("class a?,b?.", "", 64)
	refused(t, classes+"class a.", api.ErrCount, len(classes)+6)
	refused(t, classes+"class of,a.", api.ErrToken, len(classes)+6)
}
