package ground

import (
	"slices"
	"strings"

	"lexprior/api"
	"lexprior/guards"
	"lexprior/money"
)

// isPlace: whether a list has that place.
func isPlace[T any](list []T, place int) bool {
	return place >= 0 && place < len(list)
}

// writeMembers: the names of members that there are, with commas between.
func writeMembers(text *strings.Builder, s api.Statute, members []int) {
	for n, member := range members {
		if n > 0 {
			text.WriteByte(',')
		}
		text.WriteString(s.Members[member].Name)
	}
}

// litText: of a literal of that ground.
func litText(s api.Statute, g api.Ground, l api.Lit) (string, api.Errno) {
	if l.Guard == 0 {
		return atomText(s, l)
	}
	// Guards are numbered from 1 on; a number below 1 is none's.
	if l.Guard < 1 || l.Guard > len(g.Guards) {
		return "", api.ErrLit
	}
	return guards.Print(s, g.Guards[l.Guard-1])
}

// atomText: of a literal that is no guard's.
func atomText(s api.Statute, l api.Lit) (string, api.Errno) {
	isNone := func(member int) bool { return !isPlace(s.Members, member) }
	if !isPlace(s.Preds, l.Atom.Pred) || slices.ContainsFunc(l.Atom.Args, isNone) {
		return "", api.ErrLit
	}
	pred := s.Preds[l.Atom.Pred]
	var text strings.Builder
	if l.Neg {
		text.WriteByte('-')
	}
	text.WriteString(pred.Name)
	if len(l.Atom.Args) > 0 {
		text.WriteByte('(')
		writeMembers(&text, s, l.Atom.Args)
		text.WriteByte(')')
	}
	if pred.Sort == api.SortAmount {
		value, errno := money.Print(l.Atom.Value)
		if errno != api.OK {
			return "", errno
		}
		text.WriteString(" = " + value)
	}
	return text.String(), api.OK
}

// ruleText: of the schema of that name under an assignment.
func ruleText(s api.Statute, schema string, members []int) string {
	var text strings.Builder
	text.WriteString(schema)
	if len(members) > 0 {
		text.WriteByte('[')
		writeMembers(&text, s, members)
		text.WriteByte(']')
	}
	return text.String()
}
