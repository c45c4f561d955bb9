package resolve_test

import (
	"regexp"
	"slices"

	"lexprior/api"
)

// The words of the chapter, in another form than the program has them.
var (
	nameForm = regexp.MustCompile(`\A[a-z][a-z0-9_]{0,31}\z`)
	varForm  = regexp.MustCompile(`\A[A-Z][A-Za-z0-9_]{0,31}\z`)
)

func isName(s string) bool { return nameForm.MatchString(s) }
func isVar(s string) bool  { return varForm.MatchString(s) }

func mayBe(m api.Money) bool { return -1e15 <= m && m <= 1e15 }
func isDay(d api.Date) bool  { return 1 <= d && d <= 3652059 }

// finding is a fault, and where the chapter names it: by the item's number, then by places in the item.
type finding struct {
	errno api.Errno
	place []int
}

// model finds all faults of a statute at one time, without a map and in no order; the one with the lowest place is the first.
type model struct {
	s     api.Statute
	found []finding
}

func (m *model) wrong(is bool, errno api.Errno, place []int, more ...int) {
	if is {
		m.found = append(m.found, finding{errno, slices.Concat(place, more)})
	}
}

func (m *model) first() (api.Errno, int) {
	if len(m.found) == 0 {
		return api.OK, count(m.s)
	}
	least := slices.MinFunc(m.found, func(a, b finding) int { return slices.Compare(a.place, b.place) })
	return least.errno, max(least.place[0], 0)
}

func (m *model) isKind(name string) bool { return slices.Contains(m.s.Kinds, name) }

func (m *model) pred(name string) (api.PredText, bool) {
	n, there := firstOf(m.s.Preds, func(p api.PredText) bool { return p.Name == name })
	if !there {
		return api.PredText{}, false
	}
	return m.s.Preds[n], true
}

func (m *model) member(name string) (api.MemberText, bool) {
	n, there := firstOf(m.s.Members, func(a api.MemberText) bool { return a.Name == name })
	if !there {
		return api.MemberText{}, false
	}
	return m.s.Members[n], true
}

func (m *model) isRule(name string) bool {
	return slices.ContainsFunc(m.s.Rules, func(r api.RuleText) bool { return r.Name == name })
}

// verdict: what Check answers, by the model.
func verdict(s api.Statute) (api.Errno, int) {
	m := &model{s: s}
	m.lengths()
	number := 0
	for _, list := range []struct {
		length int
		faults func(i, number int)
	}{
		{len(s.Kinds), m.kindFaults}, {len(s.Members), m.memberFaults}, {len(s.Preds), m.predFaults}, {len(s.Classes), m.classFaults},
		{len(s.Sources), m.sourceFaults}, {len(s.Rules), m.ruleFaults}, {len(s.Excepts), m.exceptionFaults}, {len(s.Totals), m.totalFaults},
	} {
		for i := range list.length {
			list.faults(i, number)
			number++
		}
	}
	return m.first()
}

func (m *model) lengths() {
	s := m.s
	ahead := []int{-1}
	m.wrong(len(s.Kinds) > 16 || len(s.Members) > 64 || len(s.Preds) > 256 || len(s.Classes) > 64, api.ErrCount, ahead)
	m.wrong(len(s.Sources) > 64 || len(s.Rules) > 512 || len(s.Excepts) > 512 || len(s.Totals) > 64, api.ErrCount, ahead)
}

func (m *model) kindFaults(i, number int) {
	at := []int{number}
	m.wrong(!isName(m.s.Kinds[i]), api.ErrSymbol, at, 0)
	m.wrong(slices.Contains(m.s.Kinds[:i], m.s.Kinds[i]), api.ErrTwice, at, 1)
}

func (m *model) memberFaults(i, number int) {
	at, a := []int{number}, m.s.Members[i]
	m.wrong(!isName(a.Name), api.ErrSymbol, at, 0)
	m.wrong(slices.ContainsFunc(m.s.Members[:i], func(b api.MemberText) bool { return a.Name == b.Name }), api.ErrTwice, at, 1)
	m.wrong(!m.isKind(a.Kind), api.ErrKind, at, 2)
}

func (m *model) predFaults(i, number int) {
	at, p := []int{number}, m.s.Preds[i]
	m.wrong(!isName(p.Name), api.ErrSymbol, at, 0)
	m.wrong(slices.ContainsFunc(m.s.Preds[:i], func(b api.PredText) bool { return p.Name == b.Name }), api.ErrTwice, at, 1)
	m.wrong(p.Sort != 1 && p.Sort != 2 && p.Sort != 3, api.ErrSort, at, 2)
	m.wrong(len(p.Kinds) > 4 || len(p.Values) > 64, api.ErrCount, at, 3)
	for _, kind := range p.Kinds {
		m.wrong(!m.isKind(kind), api.ErrKind, at, 4)
	}
	m.wrong(p.Sort == 3 && len(p.Values) == 0 || p.Sort != 3 && len(p.Values) > 0, api.ErrValue, at, 5)
	for i, value := range p.Values[:min(65, len(p.Values))] {
		m.wrong(!mayBe(value) || value < 0 || slices.Contains(p.Values[:i], value), api.ErrValue, at, 5)
	}
}

func (m *model) classFaults(i, number int) {
	at, names := []int{number}, m.s.Classes[i]
	m.wrong(len(names) < 2 || len(names) > 16, api.ErrCount, at, 0)
	for n, name := range names {
		p, there := m.pred(name)
		m.wrong(!there, api.ErrName, at, 1, n, 0)
		m.wrong(p.Sort != 1, api.ErrSort, at, 1, n, 1)
		first, _ := m.pred(names[0])
		m.wrong(!slices.Equal(p.Kinds, first.Kinds), api.ErrClass, at, 1, n, 2)
		twice := slices.Contains(names[:n], name) || slices.ContainsFunc(m.s.Classes[:i], func(other []string) bool { return slices.Contains(other, name) })
		m.wrong(twice, api.ErrTwice, at, 1, n, 3)
	}
}

func (m *model) sourceFaults(i, number int) {
	at, a := []int{number}, m.s.Sources[i]
	m.wrong(!isName(a.Name), api.ErrSymbol, at, 0)
	m.wrong(slices.ContainsFunc(m.s.Sources[:i], func(b api.SourceText) bool { return a.Name == b.Name }), api.ErrTwice, at, 1)
	m.wrong(a.Rank < 0 || a.Rank > 1000, api.ErrRange, at, 2)
}

func (m *model) exceptionFaults(i, number int) {
	at, e := []int{number}, m.s.Excepts[i]
	m.wrong(!m.isRule(e.Over) || !m.isRule(e.Under), api.ErrName, at, 0)
	m.wrong(slices.Contains(m.s.Excepts[:i], e), api.ErrTwice, at, 1)
}

func (m *model) totalFaults(i, number int) {
	at, a := []int{number}, m.s.Totals[i]
	m.wrong(!isName(a.Name), api.ErrSymbol, at, 0)
	m.wrong(slices.ContainsFunc(m.s.Totals[:i], func(b api.TotalText) bool { return a.Name == b.Name }), api.ErrTwice, at, 1)
	m.wrong(!m.isKind(a.Kind), api.ErrKind, at, 2)
	m.wrong(len(a.Preds) < 1 || len(a.Preds) > 16, api.ErrCount, at, 3)
	for n, name := range a.Preds {
		p, there := m.pred(name)
		m.wrong(!there, api.ErrName, at, 4, n, 0)
		m.wrong(p.Sort != 3, api.ErrSort, at, 4, n, 1)
		m.wrong(!slices.Equal(p.Kinds, []string{a.Kind}), api.ErrArity, at, 4, n, 2)
		m.wrong(slices.Contains(a.Preds[:n], name), api.ErrTwice, at, 4, n, 3)
	}
	m.wrong(a.HasCap && (!mayBe(a.Cap) || a.Cap < 0), api.ErrOver, at, 5)
	m.wrong(!a.HasCap && a.Cap != 0, api.ErrArg, at, 6)
}

func (m *model) ruleFaults(i, number int) {
	at, r := []int{number}, m.s.Rules[i]
	m.wrong(!isName(r.Name), api.ErrSymbol, at, 0)
	m.wrong(slices.ContainsFunc(m.s.Rules[:i], func(b api.RuleText) bool { return r.Name == b.Name }), api.ErrTwice, at, 1)
	m.wrong(!slices.ContainsFunc(m.s.Sources, func(a api.SourceText) bool { return a.Name == r.Source }), api.ErrSource, at, 2)
	m.wrong(!isDay(r.At) || r.Until != 0 && !isDay(r.Until), api.ErrDate, at, 3)
	m.wrong(r.Until != 0 && r.Until <= r.At, api.ErrOrder, at, 4)
	m.wrong(r.Arrow != 1 && r.Arrow != 2 && r.Arrow != 3, api.ErrArg, at, 5)
	m.wrong(len(r.Body) > 16, api.ErrCount, at, 6)
	for n, p := range r.Body[:min(17, len(r.Body))] {
		m.premiseFaults(p, slices.Concat(at, []int{7, n}))
	}
	m.literalFaults(r.Head, slices.Concat(at, []int{8}))
	spots := m.spots(r)
	for n, spot := range spots {
		m.spotFaults(spots[:n], spot, at)
	}
	for _, name := range varsOf(spots) {
		bound := slices.ContainsFunc(spots, func(other spot) bool { return other.arg == name && other.hasKind })
		m.wrong(!bound, api.ErrFree, at, 9)
	}
}

func (m *model) premiseFaults(p api.PremiseText, at []int) {
	switch p.Kind {
	case 1:
		m.literalFaults(p.Lit, at)
	case 2:
		m.guardFaults(p.Guard, at)
	case 3:
	default:
		m.wrong(true, api.ErrArg, at)
	}
}

func (m *model) literalFaults(l api.LitText, at []int) {
	p, there := m.pred(l.Pred)
	m.wrong(!there, api.ErrName, at, 0)
	m.wrong(p.Sort == 2, api.ErrSort, at, 1)
	m.wrong(len(l.Args) != len(p.Kinds), api.ErrArity, at, 2)
	m.wrong(l.HasValue != (p.Sort == 3) || !l.HasValue && l.Value != 0, api.ErrSort, at, 4)
	m.wrong(l.HasValue && !slices.Contains(p.Values, l.Value), api.ErrValue, at, 5)
}

func (m *model) guardFaults(g api.GuardText, at []int) {
	m.wrong(g.Op < 1 || g.Op > 6, api.ErrGuard, at, 0)
	m.wrong(len(g.Left) == 0 || len(g.Left) > 8 || len(g.Right) == 0 || len(g.Right) > 8, api.ErrGuard, at, 0)
	for side, terms := range [][]api.TermText{g.Left, g.Right} {
		for n, t := range terms {
			m.termFaults(t, slices.Concat(at, []int{1 + side, n}))
		}
	}
}

func (m *model) termFaults(t api.TermText, at []int) {
	if t.Pred == "" {
		m.wrong(t.Coef != 0 || len(t.Args) > 0, api.ErrGuard, at, 0)
		m.wrong(!mayBe(t.Value), api.ErrOver, at, 1)
		return
	}
	p, there := m.pred(t.Pred)
	m.wrong(!there, api.ErrName, at, 0)
	m.wrong(p.Sort != 2, api.ErrSort, at, 1)
	m.wrong(t.Coef == 0 || t.Coef < -1000 || t.Coef > 1000 || t.Value != 0, api.ErrGuard, at, 2)
	m.wrong(len(t.Args) != len(p.Kinds), api.ErrArity, at, 3)
}

// spot is where an argument stands in a rule; in those of unlike arguments it has no kind.
type spot struct {
	arg     string
	kind    string
	hasKind bool
	place   []int // within the item
}

// spots: of a rule, in their order. Of a predicate with too few kinds the spots behind have none; that is a fault ahead of theirs.
func (m *model) spots(r api.RuleText) []spot {
	var all []spot
	for n, p := range r.Body[:min(17, len(r.Body))] {
		switch p.Kind {
		case 1:
			all = append(all, m.argumentSpots(p.Lit.Pred, p.Lit.Args, 7, n, 3)...)
		case 2:
			for side, terms := range [][]api.TermText{p.Guard.Left, p.Guard.Right} {
				for i, t := range terms {
					all = append(all, m.argumentSpots(t.Pred, t.Args, 7, n, 1+side, i, 4)...)
				}
			}
		case 3:
			all = append(all, spot{arg: p.A, place: []int{7, n, 0}}, spot{arg: p.B, place: []int{7, n, 1}})
		}
	}
	return append(all, m.argumentSpots(r.Head.Pred, r.Head.Args, 8, 3)...)
}

func (m *model) argumentSpots(name string, args []string, at ...int) []spot {
	p, _ := m.pred(name)
	var all []spot
	for n, arg := range args[:min(len(args), len(p.Kinds))] {
		all = append(all, spot{arg, p.Kinds[n], true, slices.Concat(at, []int{n})})
	}
	return all
}

func (m *model) spotFaults(ahead []spot, a spot, at []int) {
	at = slices.Concat(at, a.place)
	m.wrong(!isName(a.arg) && !isVar(a.arg), api.ErrSymbol, at, 0)
	if isName(a.arg) {
		member, there := m.member(a.arg)
		m.wrong(!there, api.ErrName, at, 1)
		m.wrong(a.hasKind && member.Kind != a.kind, api.ErrKind, at, 2)
	}
	if isVar(a.arg) && a.hasKind {
		m.wrong(slices.ContainsFunc(ahead, func(b spot) bool { return b.arg == a.arg && b.hasKind && b.kind != a.kind }), api.ErrKind, at, 3)
	}
}

// varsOf: in the order in which they first stand there.
func varsOf(spots []spot) []string {
	var names []string
	for _, a := range spots {
		if isVar(a.arg) && !slices.Contains(names, a.arg) {
			names = append(names, a.arg)
		}
	}
	return names
}

// modelVars: what Vars answers, by the model.
func modelVars(s api.Statute, schema int) ([]string, []int, api.Errno) {
	if errno, _ := verdict(s); errno != api.OK {
		return nil, nil, errno
	}
	if schema < 0 || schema >= len(s.Rules) {
		return nil, nil, api.ErrArg
	}
	spots := (&model{s: s}).spots(s.Rules[schema])
	names := varsOf(spots)
	var kinds []int
	for _, name := range names {
		n := slices.IndexFunc(spots, func(a spot) bool { return a.arg == name && a.hasKind })
		kinds = append(kinds, slices.Index(s.Kinds, spots[n].kind))
	}
	return names, kinds, api.OK
}

// modelLiteral: what Literal answers, by the model: of a rule with that head alone, but that a variable is a fault where it stands.
func modelLiteral(s api.Statute, l api.LitText) (api.Lit, api.Errno) {
	if errno, _ := verdict(s); errno != api.OK {
		return api.Lit{}, errno
	}
	m := &model{s: s}
	m.literalFaults(l, []int{0})
	for _, a := range m.argumentSpots(l.Pred, l.Args, 3) {
		m.spotFaults(nil, a, []int{0})
		m.wrong(isVar(a.arg), api.ErrFree, slices.Concat([]int{0}, a.place))
	}
	if errno, _ := m.first(); errno != api.OK {
		return api.Lit{}, errno
	}
	pred, _ := firstOf(s.Preds, func(p api.PredText) bool { return p.Name == l.Pred })
	lit := api.Lit{Neg: l.Neg, Atom: api.Atom{Pred: pred, Value: l.Value}}
	for _, arg := range l.Args {
		member, _ := firstOf(s.Members, func(a api.MemberText) bool { return a.Name == arg })
		lit.Atom.Args = append(lit.Atom.Args, member)
	}
	return lit, api.OK
}

// modelLists: what Class, Sorts and Of answer, by the model.
func modelLists(s api.Statute) (class []int, sorts []api.Sort, of [][]int) {
	for _, p := range s.Preds {
		sorts = append(sorts, p.Sort)
		class = append(class, slices.IndexFunc(s.Classes, func(names []string) bool { return slices.Contains(names, p.Name) }))
	}
	for kind, name := range s.Kinds {
		var members []int
		for n, a := range s.Members {
			if a.Kind == name && slices.Index(s.Kinds, name) == kind {
				members = append(members, n)
			}
		}
		of = append(of, members)
	}
	return class, sorts, of
}
