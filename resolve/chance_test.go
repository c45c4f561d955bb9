package resolve_test

import (
	"slices"
	"testing"

	"lexprior/api"
	"lexprior/resolve"
	"lexprior/syntax"
)

// itemKind: which kind of item has that number.
func itemKind(s api.Statute, number int) int {
	for kind, many := range []int{len(s.Kinds), len(s.Members), len(s.Preds), len(s.Classes), len(s.Sources), len(s.Rules), len(s.Excepts), len(s.Totals)} {
		if number < many {
			return kind
		}
		number -= many
	}
	return -1
}

// faults: which each kind of item can have.
var faults = [8][]api.Errno{
	{api.ErrSymbol, api.ErrTwice},
	{api.ErrSymbol, api.ErrTwice, api.ErrKind},
	{api.ErrSymbol, api.ErrTwice, api.ErrSort, api.ErrCount, api.ErrKind, api.ErrValue},
	{api.ErrCount, api.ErrName, api.ErrSort, api.ErrClass, api.ErrTwice},
	{api.ErrSymbol, api.ErrTwice, api.ErrRange},
	{api.ErrSymbol, api.ErrTwice, api.ErrSource, api.ErrDate, api.ErrOrder, api.ErrArg, api.ErrCount, api.ErrName, api.ErrSort, api.ErrArity, api.ErrKind, api.ErrValue, api.ErrGuard, api.ErrOver, api.ErrFree},
	{api.ErrName, api.ErrTwice},
	{api.ErrSymbol, api.ErrTwice, api.ErrKind, api.ErrCount, api.ErrName, api.ErrSort, api.ErrArity, api.ErrOver, api.ErrArg},
}

// wantModel: Check and Vars answer what the model says.
func wantModel(t testing.TB, s api.Statute) (api.Errno, int) {
	t.Helper()
	errno, item := verdict(s)
	wantCheck(t, "the model", s, errno, item)
	for schema := -1; schema <= min(len(s.Rules), 20); schema++ {
		names, kinds, errno := modelVars(s, schema)
		wantVars(t, s, schema, names, kinds, errno)
		if errno != api.OK && schema > 1 {
			break
		}
	}
	return errno, item
}

func TestMadeStatutes(t *testing.T) {
	t.Parallel()
	m := newMaker(81)
	var rules, vars, unlike int
	for range 3000 {
		s := m.statute()
		wantTaken(t, "a made statute", s)
		wantModel(t, s)
		if t.Failed() {
			return
		}
		rules += len(s.Rules)
		for schema, r := range s.Rules {
			names, _, _ := resolve.Vars(s, schema)
			vars += len(names)
			for _, p := range r.Body {
				if p.Kind == api.PremiseUnlike {
					unlike++
				}
			}
		}
	}
	if rules < 3000 || vars < 6000 || unlike < 1000 {
		t.Errorf("only %d rules with %d variables and %d premises of unlike ones", rules, vars, unlike)
	}
}

func TestSpoiltStatutes(t *testing.T) {
	t.Parallel()
	m := newMaker(82)
	var seen [8][300]int
	for n := range 15000 {
		s := m.spoilt(1 + n%3)
		errno, item := wantModel(t, s)
		if t.Failed() {
			return
		}
		if kind := itemKind(s, item); kind >= 0 {
			seen[kind][errno]++
		}
	}
	for kind, all := range faults {
		for _, errno := range all {
			if seen[kind][errno] < 5 {
				t.Errorf("only %d items of kind %d have the error %d", seen[kind][errno], kind, errno)
			}
			seen[kind][errno] = 0
		}
		seen[kind][api.ErrCount] = 0 // of a list that is too long, the item is 0
		if more := slices.IndexFunc(seen[kind][:], func(many int) bool { return many > 0 }); more >= 0 {
			t.Errorf("an item of kind %d has the error %d", kind, more)
		}
	}
}

// TestAsksOfSpoiltStatutes: whatever Check says of them.
func TestAsksOfSpoiltStatutes(t *testing.T) {
	m := newMaker(83)
	for n := range 5000 {
		s := m.spoilt(n % 4)
		class, sorts, of := modelLists(s)
		wantLists(t, s, class, sorts, of)
		for range 3 {
			wantAsked(t, s, pick(m, pick(m, oddTexts, names)...))
		}
		if t.Failed() {
			return
		}
	}
}

// TestLiteralsByChance: those of made rules and others, some with a value that is another.
func TestLiteralsByChance(t *testing.T) {
	t.Parallel()
	m := newMaker(84)
	var seen [300]int
	for n := range 20000 {
		s := m.spoilt(n / 18000)
		if len(m.predsOf(isNumber)) == len(m.s.Preds) {
			continue
		}
		l := copied(m.literal())
		if m.maybe() {
			all := placesOf(&l)
			m.spoil(all[m.chance.Intn(len(all))])
		}
		want, errno := modelLiteral(s, l)
		wantLiteral(t, s, l, want, errno)
		if t.Failed() {
			return
		}
		seen[errno]++
	}
	for _, errno := range []api.Errno{api.OK, api.ErrName, api.ErrSort, api.ErrArity, api.ErrSymbol, api.ErrKind, api.ErrFree, api.ErrValue} {
		if seen[errno] < 30 {
			t.Errorf("only %d literals have the error %d", seen[errno], errno)
		}
	}
}

// FuzzCheck: whatever is read of a text is checked as the model says.
func FuzzCheck(f *testing.F) {
	f.Add(house)
	f.Fuzz(func(t *testing.T, text string) {
		s, errno, _ := syntax.Parse(text)
		if errno == api.OK {
			wantModel(t, s)
			class, sorts, of := modelLists(s)
			wantLists(t, s, class, sorts, of)
		}
	})
}
