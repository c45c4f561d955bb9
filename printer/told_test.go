package printer_test

import (
	"errors"
	"math"
	"reflect"
	"strconv"
	"strings"
	"text/template"

	"lexprior/api"
	"lexprior/calendar"
	"lexprior/money"
	"lexprior/syntax"
)

// forms is the chapter's section 'The form' as a template, against which the printer is held.
const forms = `
{{- define "kinds"}}{{if .}}({{names .}}){{end}}{{end -}}
{{- define "literal"}}{{if .Neg}}-{{end}}{{.Pred}}{{template "kinds" .Args}}{{if .HasValue}} = {{money .Value}}{{end}}{{end -}}
{{- define "side"}}{{range $i, $t := .}}{{sign $i $t}}{{if eq $t.Pred ""}}{{unsigned $i (money $t.Value)}}{{else}}{{factor $i $t.Coef}}{{$t.Pred}}{{template "kinds" $t.Args}}{{end}}{{end}}{{end -}}
{{- define "guard"}}{{"{"}}{{template "side" .Left}} {{op .Op}} {{template "side" .Right}}{{"}"}}{{end -}}
{{- define "premise"}}{{if lit .Kind}}{{template "literal" .Lit}}{{else if guard .Kind}}{{template "guard" .Guard}}{{else}}{{.A}} != {{.B}}{{end}}{{end -}}
{{- if .Title}}statute "{{.Title}}".
{{end}}{{range .Kinds}}kind {{.}}.
{{end}}{{range .Members}}member {{.Name}} : {{.Kind}}.
{{end}}{{range .Preds}}{{sort .Sort}} {{.Name}}{{template "kinds" .Kinds}}{{if amount .Sort}} : {{range $i, $m := .Values}}{{if $i}}, {{end}}{{money $m}}{{end}}{{end}}.
{{end}}{{range .Classes}}class {{names .}}.
{{end}}{{range .Sources}}source {{.Name}} rank {{rank .Rank}}.
{{end}}{{range .Rules}}rule {{.Name}} of {{.Source}} at {{day .At}}{{if .Until}} until {{day .Until}}{{end}} : {{range $i, $p := .Body}}{{if $i}}, {{end}}{{template "premise" $p}}{{end}}{{if .Body}} {{end}}{{arrow .Arrow}} {{template "literal" .Head}}.
{{end}}{{range .Excepts}}exception {{.Over}} to {{.Under}}.
{{end}}{{range .Totals}}total {{.Name}}({{.Kind}}) : {{names .Preds}}{{if .HasCap}} cap {{money .Cap}}{{end}}.
{{end}}`

var errNone = errors.New("this has no form")

// known: the text that a number has, if it has one.
func known[N ~int](all map[N]string) func(N) (string, error) {
	return func(number N) (string, error) {
		text, ok := all[number]
		if !ok {
			return "", errNone
		}
		return text, nil
	}
}

func moneyText(m api.Money) (string, error) {
	text, errno := money.Print(m)
	if errno != api.OK {
		return "", errNone
	}
	return text, nil
}

func dayText(d api.Date) (string, error) {
	text, errno := calendar.Print(d)
	if errno != api.OK {
		return "", errNone
	}
	return text, nil
}

func rankText(rank int) (string, error) {
	if rank < 0 {
		return "", errNone
	}
	return strconv.Itoa(rank), nil
}

func factorText(i int, coef int64) (string, error) {
	if coef < 0 && i == 0 || coef == math.MinInt64 {
		return "", errNone
	}
	if coef == 1 || coef == -1 {
		return "", nil
	}
	return strings.TrimPrefix(strconv.FormatInt(coef, 10), "-") + "*", nil
}

func signText(i int, t api.TermText) string {
	if i == 0 {
		return ""
	}
	if t.Pred == "" && t.Value < 0 || t.Pred != "" && t.Coef < 0 {
		return " - "
	}
	return " + "
}

func unsignedText(i int, text string) string {
	if i == 0 {
		return text
	}
	return strings.TrimPrefix(text, "-")
}

func isPremise(kind api.PremiseKind) func(api.PremiseKind) (bool, error) {
	return func(got api.PremiseKind) (bool, error) {
		if got < api.PremiseLit || got > api.PremiseUnlike {
			return false, errNone
		}
		return got == kind, nil
	}
}

func readForms() *template.Template {
	return template.Must(template.New("statute").Funcs(template.FuncMap{
		"names":    func(all []string) string { return strings.Join(all, ", ") },
		"money":    moneyText,
		"day":      dayText,
		"rank":     rankText,
		"factor":   factorText,
		"sign":     signText,
		"unsigned": unsignedText,
		"lit":      isPremise(api.PremiseLit),
		"guard":    isPremise(api.PremiseGuard),
		"amount":   func(s api.Sort) bool { return s == api.SortAmount },
		"sort":     known(map[api.Sort]string{api.SortPlain: "pred", api.SortNumber: "number", api.SortAmount: "amount"}),
		"arrow":    known(map[api.Arrow]string{api.Strict: "->", api.Defeasible: "=>", api.Defeater: "~>"}),
		"op":       known(map[api.Op]string{api.OpLess: "<", api.OpMost: "<=", api.OpEqual: "==", api.OpUnequal: "<>", api.OpLeast: ">=", api.OpMore: ">"}),
	}).Parse(forms))
}

// formOf: the form by the template; false, if something has none.
func formOf(forms *template.Template, s api.Statute) (string, bool) {
	var b strings.Builder
	if err := forms.Execute(&b, s); err != nil {
		if !errors.Is(err, errNone) {
			panic(err)
		}
		return "", false
	}
	return b.String(), true
}

// verdict: what the chapter says that Print answers.
func verdict(forms *template.Template, s api.Statute) (string, api.Errno) {
	form, ok := formOf(forms, s)
	if !ok {
		return "", api.ErrForm
	}
	if len(form) > api.MaxText {
		return "", api.ErrLong
	}
	read, errno, _ := syntax.Parse(form)
	if errno != api.OK || !same(read, s) {
		return "", api.ErrForm
	}
	return form, api.OK
}

// plain: a copy that shares nothing, in which empty lists are nil.
func plain(v reflect.Value) reflect.Value {
	c := reflect.New(v.Type()).Elem()
	switch v.Kind() {
	case reflect.Struct:
		for i := range v.NumField() {
			c.Field(i).Set(plain(v.Field(i)))
		}
	case reflect.Slice:
		for i := range v.Len() {
			c.Set(reflect.Append(c, plain(v.Index(i))))
		}
	case reflect.String:
		c.SetString(strings.Clone(v.String()))
	default:
		c.Set(v)
	}
	return c
}

func copied[T any](thing T) T {
	return plain(reflect.ValueOf(thing)).Interface().(T)
}

// same: whether two differ in nothing but that a list is nil or empty.
func same[T any](a, b T) bool {
	return reflect.DeepEqual(copied(a), copied(b))
}
