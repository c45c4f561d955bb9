package printer_test

import (
	"reflect"
	"strings"
	"testing"
	"text/template"

	"lexprior/api"
	"lexprior/printer"
	"lexprior/syntax"
)

// TestThereAndBack: of statutes that have a form.
func TestThereAndBack(t *testing.T) {
	m, forms := newMaker(65), readForms()
	for range 3000 {
		s := m.statute()
		form, errno := printer.Print(s)
		if errno != api.OK {
			t.Fatalf("P6.1: Print(%+v): %d", s, errno)
		}
		if want, ok := formOf(forms, s); !ok || form != want {
			t.Fatalf("P6.1: Print(%+v): %q, want %q", s, form, want)
		}
		read, errno, at := syntax.Parse(form)
		if errno != api.OK || at != len(form) || !same(read, s) {
			t.Fatalf("P6.4: Parse(%q): %+v, %d, %d, want %+v", form, read, errno, at, s)
		}
		if again, errno := printer.Print(read); again != form || errno != api.OK {
			t.Fatalf("P6.4: Print of what Parse reads of %q: %q, %d", form, again, errno)
		}
	}
}

// checkPrint: Print's answer is the chapter's.
func checkPrint(t *testing.T, s api.Statute, form string, errno api.Errno) api.Errno {
	t.Helper()
	if got, gotErrno := printer.Print(s); got != form || gotErrno != errno {
		t.Fatalf("P6.1: Print(%.3000v): %.3000q, %d, want %.3000q, %d", s, got, gotErrno, form, errno)
	}
	return errno
}

// TestSpoiltStatutes: one value or some are others, so that there may be several faults, some with a form that is too long.
func TestSpoiltStatutes(t *testing.T) {
	m, forms := newMaker(66), readForms()
	var faults [100]int
	for range 6000 {
		s := copied(m.statute())
		for range 1 + m.chance.Intn(3) {
			all := places(reflect.ValueOf(&s).Elem())
			m.spoil(all[m.chance.Intn(len(all))])
		}
		if m.chance.Intn(5) == 0 {
			s = pick(m, long, longBehind)(s)
		}
		form, errno := verdict(forms, s)
		faults[checkPrint(t, s, form, errno)]++
	}
	for _, errno := range []api.Errno{api.OK, api.ErrForm, api.ErrLong} {
		if faults[errno] < 300 {
			t.Errorf("only %d of the statutes have the error %d", faults[errno], errno)
		}
	}
}

// TestEachValue: each value of some statutes becomes each other one that is odd, alone.
func TestEachValue(t *testing.T) {
	m, forms := newMaker(67), readForms()
	for range 8 {
		s := copied(someStatute())
		s.Rules = []api.RuleText{m.rule(), someRule()}
		for _, place := range places(reflect.ValueOf(&s).Elem()) {
			was := reflect.New(place.Type()).Elem()
			was.Set(place)
			for number := range 5 {
				m.spoil(place)
				if place.Kind() == reflect.String && number == 0 {
					place.SetString("other")
				}
				form, errno := verdict(forms, s)
				checkPrint(t, s, form, errno)
				place.Set(was)
			}
		}
	}
}

func TestRulesLiteralsAndGuardsAreThoseOfAStatute(t *testing.T) {
	m, forms := newMaker(68), readForms()
	var faults [100]int
	for range 4000 {
		r := copied(m.rule())
		for range m.chance.Intn(3) {
			all := places(reflect.ValueOf(&r).Elem())
			m.spoil(all[m.chance.Intn(len(all))])
		}
		form, errno := verdict(forms, api.Statute{Rules: []api.RuleText{r}})
		if got, gotErrno := printer.Rule(r); got != strings.TrimSuffix(form, "\n") || gotErrno != errno {
			t.Fatalf("P6.2: Rule(%+v): %q, %d, want %q, %d", r, got, gotErrno, form, errno)
		}
		faults[errno]++
		for _, p := range append(r.Body, api.PremiseText{Lit: r.Head}) {
			checkPremises(t, forms, p)
		}
	}
	if faults[api.OK] < 300 || faults[api.ErrForm] < 300 {
		t.Errorf("only %d rules have a form, and %d have none", faults[api.OK], faults[api.ErrForm])
	}
}

// inRule: the premise's text in the form of the rule that has no other.
func inRule(forms *template.Template, p api.PremiseText) (string, api.Errno) {
	form, errno := verdict(forms, api.Statute{Rules: []api.RuleText{{Name: "r", Source: "s", At: 1, Body: []api.PremiseText{p}, Arrow: api.Strict, Head: api.LitText{Pred: "p"}}}})
	form = strings.TrimPrefix(form, "rule r of s at 0001-01-01 : ")
	return strings.TrimSuffix(form, " -> p.\n"), errno
}

// checkPremises: of a premise's literal and guard, whichever of them it is.
func checkPremises(t *testing.T, forms *template.Template, p api.PremiseText) {
	t.Helper()
	want, errno := inRule(forms, api.PremiseText{Kind: api.PremiseLit, Lit: p.Lit})
	if got, gotErrno := printer.Literal(p.Lit); got != want || gotErrno != errno {
		t.Fatalf("P6.2: Literal(%+v): %q, %d, want %q, %d", p.Lit, got, gotErrno, want, errno)
	}
	want, errno = inRule(forms, api.PremiseText{Kind: api.PremiseGuard, Guard: p.Guard})
	if got, gotErrno := printer.Guard(p.Guard); got != want || gotErrno != errno {
		t.Fatalf("P6.2: Guard(%+v): %q, %d, want %q, %d", p.Guard, got, gotErrno, want, errno)
	}
}

// parts: statutes of one thing each, in the order of the form.
func parts(s api.Statute) []api.Statute {
	all := []api.Statute{{Title: s.Title}}
	lists := reflect.ValueOf(s)
	for i := 1; i < lists.NumField(); i++ {
		for n := range lists.Field(i).Len() {
			var one api.Statute
			reflect.ValueOf(&one).Elem().Field(i).Set(lists.Field(i).Slice(n, n+1))
			all = append(all, one)
		}
	}
	return all
}

func TestLinesOfParts(t *testing.T) {
	m := newMaker(69)
	for range 500 {
		s := m.statute()
		form, _ := printer.Print(s)
		var lines strings.Builder
		for _, each := range parts(s) {
			line, errno := printer.Print(each)
			if errno != api.OK || strings.Count(line, "\n") > 1 || strings.TrimSuffix(line, ".\n") == line && line != "" {
				t.Fatalf("P6.6: Print(%+v): %q, %d", each, line, errno)
			}
			lines.WriteString(line)
		}
		if form != lines.String() {
			t.Fatalf("P6.6: Print(%+v): %q, its parts %q", s, form, lines.String())
		}
		for _, r := range s.Rules {
			checkPartsOfRule(t, form, r)
		}
	}
}

// checkPartsOfRule: its line is in the form, and its premises' texts are in its line.
func checkPartsOfRule(t *testing.T, form string, r api.RuleText) {
	t.Helper()
	line, errno := printer.Rule(r)
	if errno != api.OK || !strings.Contains("\n"+form, "\n"+line+"\n") {
		t.Fatalf("P6.6: Rule(%+v): %q, %d, not in %q", r, line, errno, form)
	}
	texts := make([]string, len(r.Body))
	for i, p := range r.Body {
		switch p.Kind {
		case api.PremiseLit:
			texts[i], _ = printer.Literal(p.Lit)
		case api.PremiseGuard:
			texts[i], _ = printer.Guard(p.Guard)
		default:
			texts[i] = p.A + " != " + p.B
		}
	}
	head, _ := printer.Literal(r.Head)
	if body := strings.Join(texts, ", "); !strings.Contains(line, " : "+body) || !strings.HasSuffix(line, "> "+head+".") {
		t.Fatalf("P6.6: Rule(%+v): %q does not have %q and %q", r, line, body, head)
	}
}

// TestOneNormalOneStatute: of texts that are read alike, and of texts that are not.
func TestOneNormalOneStatute(t *testing.T) {
	m := newMaker(70)
	for range 500 {
		s := copied(m.statute())
		first, _ := printer.Print(s)
		all := places(reflect.ValueOf(&s).Elem())
		m.spoil(all[m.chance.Intn(len(all))])
		second, errno := printer.Print(s)
		if errno != api.OK {
			continue
		}
		a, _, _ := syntax.Parse(first)
		b, _, _ := syntax.Parse(respaced(t, m.chance, second))
		one, _, _ := printer.Normal(first)
		other, _, _ := printer.Normal(second)
		if (one == other) != same(a, b) {
			t.Fatalf("P6.5: %q and %q are read as %+v and %+v", one, other, a, b)
		}
	}
}
