package resolve_test

import (
	"reflect"
	"slices"
	"testing"

	"lexprior/api"
	"lexprior/resolve"
)

// withoutLast: the statute without its last item.
func withoutLast(s api.Statute) api.Statute {
	other := copied(s)
	lists := reflect.ValueOf(&other).Elem()
	for i := lists.NumField() - 1; i > 0; i-- {
		if list := lists.Field(i); list.Len() > 0 {
			list.Set(list.Slice(0, list.Len()-1))
			break
		}
	}
	return other
}

func TestWithoutItsLastItem(t *testing.T) {
	m := newMaker(85)
	statutes := []api.Statute{parsed(t, house)}
	for range 300 {
		statutes = append(statutes, m.statute())
	}
	for _, s := range statutes {
		for left := count(s); left >= 0; left-- {
			if errno, many := resolve.Check(s); errno != api.OK || many != left {
				t.Fatalf("P8.5: Check(%+v): %d, %d, with %d items", s, errno, many, left)
			}
			s = withoutLast(s)
		}
	}
}

// behind: items of new names, each put behind its list. Each is taken with those ahead of it here.
func behind(m *maker, s api.Statute) []func(s *api.Statute) {
	kind := pick(m, s.Kinds...)
	amount := api.PredText{Name: "new_amount", Sort: api.SortAmount, Kinds: []string{kind}, Values: []api.Money{1}}
	rule := api.RuleText{
		Name: "new_rule", Source: "new_source", At: 9, Arrow: api.Strict, Head: worth(lit("new_amount", "X"), 1),
		Body: []api.PremiseText{{Kind: api.PremiseUnlike, A: "new_member", B: "X"}, {Kind: api.PremiseLit, Lit: lit("new_pred", "new_member")}},
	}
	return []func(s *api.Statute){
		func(s *api.Statute) { s.Kinds = append(s.Kinds, "new_kind") },
		func(s *api.Statute) {
			s.Members = append(s.Members, api.MemberText{Name: "new_member", Kind: "new_kind"})
		},
		func(s *api.Statute) {
			s.Preds = append(s.Preds, api.PredText{Name: "new_pred", Sort: api.SortPlain, Kinds: []string{"new_kind"}})
		},
		func(s *api.Statute) {
			s.Preds = append(s.Preds, api.PredText{Name: "other_pred", Sort: api.SortPlain, Kinds: []string{"new_kind"}})
		},
		func(s *api.Statute) { s.Preds = append(s.Preds, amount) },
		func(s *api.Statute) { s.Classes = append(s.Classes, []string{"new_pred", "other_pred"}) },
		func(s *api.Statute) { s.Sources = append(s.Sources, api.SourceText{Name: "new_source", Rank: 3}) },
		func(s *api.Statute) { s.Rules = append(s.Rules, rule) },
		func(s *api.Statute) {
			s.Excepts = append(s.Excepts, api.Exception{Over: "new_rule", Under: pick(m, s.Rules...).Name})
		},
		func(s *api.Statute) {
			s.Totals = append(s.Totals, api.TotalText{Name: "new_total", Kind: kind, Preds: []string{"new_amount"}})
		},
	}
}

// TestItemsBehind: one after the other; what was there is answered as before.
func TestItemsBehind(t *testing.T) {
	m := newMaker(86)
	for range 300 {
		s := m.statute()
		var vars [][]string
		for schema := range s.Rules {
			names, _, _ := resolve.Vars(s, schema)
			vars = append(vars, names)
		}
		more := copied(s)
		for _, put := range behind(m, s) {
			put(&more)
			if errno, many := resolve.Check(more); errno != api.OK || many != count(more) {
				t.Fatalf("P8.5: Check(%+v): %d, %d", more, errno, many)
			}
			for schema, want := range vars {
				if names, _, _ := resolve.Vars(more, schema); !slices.Equal(names, want) {
					t.Fatalf("P8.5: Vars(%+v, %d): %q, was %q", more, schema, names, want)
				}
			}
		}
	}
}

// renaming replaces the names of one kind of item everywhere.
type renaming func(s *api.Statute, rename func(name *string))

func renameAll(list []string, rename func(name *string)) {
	for i := range list {
		rename(&list[i])
	}
}

func renameKind(s *api.Statute, rename func(name *string)) {
	renameAll(s.Kinds, rename)
	for i := range s.Members {
		rename(&s.Members[i].Kind)
	}
	for i := range s.Preds {
		renameAll(s.Preds[i].Kinds, rename)
	}
	for i := range s.Totals {
		rename(&s.Totals[i].Kind)
	}
}

// eachPart: of all rules, the predicates with their arguments, and the unlike ones.
func eachPart(s *api.Statute, pred func(name *string, args []string), unlike func(arg *string)) {
	terms := func(side []api.TermText) {
		for i := range side {
			pred(&side[i].Pred, side[i].Args)
		}
	}
	for i := range s.Rules {
		r := &s.Rules[i]
		pred(&r.Head.Pred, r.Head.Args)
		for n := range r.Body {
			p := &r.Body[n]
			pred(&p.Lit.Pred, p.Lit.Args)
			terms(p.Guard.Left)
			terms(p.Guard.Right)
			unlike(&p.A)
			unlike(&p.B)
		}
	}
}

func renameMember(s *api.Statute, rename func(name *string)) {
	for i := range s.Members {
		rename(&s.Members[i].Name)
	}
	eachPart(s, func(_ *string, args []string) { renameAll(args, rename) }, rename)
}

func renamePred(s *api.Statute, rename func(name *string)) {
	for i := range s.Preds {
		rename(&s.Preds[i].Name)
	}
	for _, class := range s.Classes {
		renameAll(class, rename)
	}
	for i := range s.Totals {
		renameAll(s.Totals[i].Preds, rename)
	}
	eachPart(s, func(name *string, _ []string) { rename(name) }, func(*string) {})
}

func renameSource(s *api.Statute, rename func(name *string)) {
	for i := range s.Sources {
		rename(&s.Sources[i].Name)
	}
	for i := range s.Rules {
		rename(&s.Rules[i].Source)
	}
}

func renameRule(s *api.Statute, rename func(name *string)) {
	for i := range s.Rules {
		rename(&s.Rules[i].Name)
	}
	for i := range s.Excepts {
		rename(&s.Excepts[i].Over)
		rename(&s.Excepts[i].Under)
	}
}

func renameTotal(s *api.Statute, rename func(name *string)) {
	for i := range s.Totals {
		rename(&s.Totals[i].Name)
	}
}

// answers is what all calls say of a statute; of each rule its variables, and its head as a literal.
type answers struct {
	Errno  api.Errno
	Item   int
	Vars   [][]string
	Kinds  [][]int
	Errnos []api.Errno
	Heads  []api.Lit
	Class  []int
	Sorts  []api.Sort
	Of     [][]int
}

func answersOf(s api.Statute) answers {
	a := answers{Class: resolve.Class(s), Sorts: resolve.Sorts(s)}
	a.Errno, a.Item = resolve.Check(s)
	for kind := range s.Kinds {
		a.Of = append(a.Of, resolve.Of(s, kind))
	}
	for schema, r := range s.Rules {
		names, kinds, errno := resolve.Vars(s, schema)
		head, headErrno := resolve.Literal(s, r.Head)
		a.Vars, a.Kinds, a.Errnos, a.Heads = append(a.Vars, names), append(a.Kinds, kinds), append(a.Errnos, errno, headErrno), append(a.Heads, head)
	}
	return a
}

// TestRenaming: of statutes that are taken, and of others.
func TestRenaming(t *testing.T) {
	t.Parallel()
	m := newMaker(87)
	all := []renaming{renameKind, renameMember, renamePred, renameSource, renameRule, renameTotal}
	for n := range 3000 {
		s := m.spoilt(n % 3)
		want := answersOf(s)
		for _, rename := range all {
			old := pick(m, names...)
			renamed := copied(s)
			rename(&renamed, func(name *string) {
				if *name == old {
					*name = "brand_new"
				}
			})
			if got := answersOf(renamed); !same(got, want) {
				t.Fatalf("P8.6: of %+v: %+v; with brand_new for %q: %+v", s, want, old, got)
			}
		}
	}
}

// wantKinds: each argument of a rule has its place's kind, by the answers alone.
func wantKinds(t testing.TB, s api.Statute, schema int) int {
	t.Helper()
	names, kinds, errno := resolve.Vars(s, schema)
	if errno != api.OK || len(names) != len(kinds) {
		t.Fatalf("P8.7: Vars(%+v, %d): %q, %d, %d", s, schema, names, kinds, errno)
	}
	one := api.Statute{Rules: s.Rules[schema : schema+1]}
	arguments := 0
	eachPart(&one, func(name *string, args []string) {
		pred, there := resolve.Pred(s, *name)
		for i, arg := range args {
			arguments++
			kind, known := resolve.Kind(s, s.Preds[pred].Kinds[i])
			member, isMember := resolve.Member(s, arg)
			n := slices.Index(names, arg)
			if !there || !known || isMember == (n >= 0) {
				t.Fatalf("P8.7: in rule %d of %+v: %q is no argument", schema, s, arg)
			}
			if isMember && !slices.Contains(resolve.Of(s, kind), member) || n >= 0 && kinds[n] != kind {
				t.Fatalf("P8.7: in rule %d of %+v: %q is not of kind %d", schema, s, arg, kind)
			}
		}
	}, func(*string) {})
	return arguments
}

func TestOneKindEach(t *testing.T) {
	t.Parallel()
	m := newMaker(88)
	taken, arguments := 0, 0
	for n := range 8000 {
		s := m.spoilt(n % 3)
		// What a premise's kind does not need may be anything.
		for _, r := range s.Rules {
			for i, p := range r.Body {
				needed := []api.PremiseText{{}, {Kind: p.Kind, Lit: p.Lit}, {Kind: p.Kind, Guard: p.Guard}, {Kind: p.Kind, A: p.A, B: p.B}}
				r.Body[i] = needed[max(0, min(3, p.Kind))]
			}
		}
		if errno, _ := resolve.Check(s); errno != api.OK {
			continue
		}
		taken++
		for schema := range s.Rules {
			arguments += wantKinds(t, s, schema)
		}
	}
	if taken < 3000 || arguments < 20000 {
		t.Errorf("only %d statutes with %d arguments are taken", taken, arguments)
	}
}
