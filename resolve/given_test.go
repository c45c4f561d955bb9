package resolve_test

import (
	"reflect"
	"slices"
	"strings"
	"testing"

	"lexprior/api"
	"lexprior/resolve"
	"lexprior/syntax"
)

// house has all kinds of items, at least two of each, and a last rule with all kinds of premises.
const house = `
kind person. kind flat.
member ann, ben : person. member home, hut : flat.
pred old(person). pred rich(person). pred single(person). pred married(person). pred lives(person, flat). pred big(flat). pred rains.
number rate. number income(person). number rent(person, flat).
amount grant(flat) : 7. amount aid(person) : 0, 5. amount both(person, flat) : 1, 2. amount bonus : 3. amount help(person) : 10, 20.50.
class old, rich. class single, married.
source decree rank 1000. source act rank 2.
rule ra of act at 2001-05-01 : old(X) => help(X) = 10.
rule rb of decree at 2001-05-01 until 2009-01-01 :
	-both(X, home) = 1, {-5 + 2*rent(X, F) < income(X) - 3*rent(ann, F)}, X != G, lives(ben, G), Y != ben ~> -help(Y) = 20.50.
exception ra to rb. exception rb to ra.
total some(flat) : grant. total all(person) : aid, help cap 100.
`

func parsed(t testing.TB, text string) api.Statute {
	t.Helper()
	s, errno, at := syntax.Parse(text)
	if errno != api.OK {
		t.Fatalf("Parse(%q): %d, %d", text, errno, at)
	}
	return s
}

// count: how many items a statute has.
func count(s api.Statute) int {
	return len(s.Kinds) + len(s.Members) + len(s.Preds) + len(s.Classes) + len(s.Sources) + len(s.Rules) + len(s.Excepts) + len(s.Totals)
}

func wantCheck(t testing.TB, what any, s api.Statute, errno api.Errno, item int) {
	t.Helper()
	if gotErrno, got := resolve.Check(s); gotErrno != errno || got != item {
		t.Errorf("P8.1: %v: Check(%.3000v): %d, %d, want %d, %d", what, s, gotErrno, got, errno, item)
	}
}

// wantTaken: Check finds no fault.
func wantTaken(t testing.TB, what any, s api.Statute) {
	t.Helper()
	wantCheck(t, what, s, api.OK, count(s))
}

func wantVars(t testing.TB, s api.Statute, schema int, names []string, kinds []int, errno api.Errno) {
	t.Helper()
	gotNames, gotKinds, gotErrno := resolve.Vars(s, schema)
	if !slices.Equal(gotNames, names) || !slices.Equal(gotKinds, kinds) || gotErrno != errno {
		t.Errorf("P8.2: Vars(%.3000v, %d): %q, %d, %d, want %q, %d, %d", s, schema, gotNames, gotKinds, gotErrno, names, kinds, errno)
	}
}

func wantLiteral(t testing.TB, s api.Statute, l api.LitText, want api.Lit, errno api.Errno) {
	t.Helper()
	if got, gotErrno := resolve.Literal(s, l); !same(got, want) || gotErrno != errno {
		t.Errorf("P8.4: Literal(%.3000v, %+v): %+v, %d, want %+v, %d", s, l, got, gotErrno, want, errno)
	}
}

// relist says of a list which elements the memory of another one has, and how many of them that one shows.
type relist func(list reflect.Value) (reflect.Value, int)

// rebuilt: a value with texts and lists of its own; where no memory is said, the list is nil.
func rebuilt(v reflect.Value, lists relist) reflect.Value {
	other := reflect.New(v.Type()).Elem()
	switch v.Kind() {
	case reflect.Struct:
		for i := range v.NumField() {
			other.Field(i).Set(rebuilt(v.Field(i), lists))
		}
	case reflect.Slice:
		elements, length := lists(v)
		if elements.IsNil() {
			break
		}
		list := reflect.MakeSlice(v.Type(), elements.Len(), elements.Len())
		for i := range elements.Len() {
			list.Index(i).Set(rebuilt(elements.Index(i), lists))
		}
		other.Set(list.Slice(0, length))
	case reflect.String:
		other.SetString(strings.Clone(v.String()))
	default:
		other.Set(v)
	}
	return other
}

// exact: lists have what they show, and those of nothing are nil.
func exact(list reflect.Value) (reflect.Value, int) {
	if list.Len() == 0 {
		return reflect.Zero(list.Type()), 0
	}
	return list, list.Len()
}

func copied[T any](thing T) T {
	return rebuilt(reflect.ValueOf(thing), exact).Interface().(T)
}

// same: whether two differ in nothing but that a list is nil or empty.
func same[T any](a, b T) bool {
	return reflect.DeepEqual(copied(a), copied(b))
}

// changed: a copy to which something is done.
func changed(s api.Statute, change func(s *api.Statute)) api.Statute {
	other := copied(s)
	change(&other)
	return other
}

func TestHouseIsTaken(t *testing.T) {
	s := parsed(t, house)
	wantTaken(t, "house", s)
	if count(s) != 31 {
		t.Errorf("house has %d items", count(s))
	}
}
