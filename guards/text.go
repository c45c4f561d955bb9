package guards

import (
	"slices"
	"strconv"
	"strings"

	"lexprior/api"
	"lexprior/money"
)

// isNamed: whether a statute has names for all of an atom that may be.
func isNamed(s api.Statute, a api.Atom) bool {
	beyond := func(member int) bool { return member >= len(s.Members) }
	return a.Pred < len(s.Preds) && !slices.ContainsFunc(a.Args, beyond)
}

// sumText: a later term's sign stands between it and the term ahead of it.
func sumText(s api.Statute, terms []api.Term) string {
	if len(terms) == 0 {
		return "0"
	}
	var text strings.Builder
	for n, term := range terms {
		switch {
		case n > 0 && term.Coef < 0:
			text.WriteString(" - ")
			term.Coef = -term.Coef
		case n > 0:
			text.WriteString(" + ")
		}
		if term.Coef != 1 {
			text.WriteString(strconv.FormatInt(term.Coef, 10) + "*")
		}
		text.WriteString(atomText(s, term.Atom))
	}
	return text.String()
}

func atomText(s api.Statute, a api.Atom) string {
	name := s.Preds[a.Pred].Name
	if len(a.Args) == 0 {
		return name
	}
	var members []string
	for _, member := range a.Args {
		members = append(members, s.Members[member].Name)
	}
	return name + "(" + strings.Join(members, ", ") + ")"
}

// centsText: the form of money.Print, which takes less than a guard's Const may be: it is asked of the cents behind the whole part alone.
func centsText(m api.Money) string {
	sign := ""
	if m < 0 {
		sign, m = "-", -m
	}
	cents, _ := money.Print(m % 100)
	return sign + strconv.FormatInt(int64(m/100), 10) + strings.TrimPrefix(cents, "0")
}
