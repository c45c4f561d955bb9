package resolve

import (
	"slices"

	"lexprior/api"
	"lexprior/calendar"
	"lexprior/money"
	"lexprior/symbols"
)

func (r *resolver) rule(number int, t api.RuleText) {
	r.called(t.Name, r.rules, number)
	r.find(r.sources, t.Source, api.ErrSource)
	r.want(isDay(t.At) && (t.Until == 0 || isDay(t.Until)), api.ErrDate)
	r.want(t.Until == 0 || t.Until > t.At, api.ErrOrder)
	r.want(t.Arrow >= api.Strict && t.Arrow <= api.Defeater, api.ErrArg)
	r.want(len(t.Body) <= api.MaxBody, api.ErrCount)
	vars := r.parts(t)
	r.want(!slices.Contains(vars.kinds, noKind), api.ErrFree)
}

func isDay(d api.Date) bool {
	_, errno := calendar.Weekday(d)
	return errno == api.OK
}

// noKind is that of a variable which stood in no place that has one.
const noKind = -1

// scope is a rule's variables, in the order in which they first stand there.
type scope struct {
	names   []string
	kinds   []int
	numbers map[string]int
}

// stand: the number of the variable, which is new here if it did not stand ahead.
func (v *scope) stand(name string) int {
	if put(v.numbers, name, len(v.names)) {
		v.names = append(v.names, name)
		v.kinds = append(v.kinds, noKind)
	}
	return v.numbers[name]
}

// bind: the variable stands in a place of that kind. Did it stand in none of another one?
func (v *scope) bind(name string, kind int) bool {
	n := v.stand(name)
	if v.kinds[n] == noKind {
		v.kinds[n] = kind
	}
	return v.kinds[n] == kind
}

// parts asks of a rule's premises and Head: its variables.
func (r *resolver) parts(t api.RuleText) *scope {
	vars := &scope{numbers: map[string]int{}}
	bind := func(name string, kind int) {
		r.want(vars.bind(name, kind), api.ErrKind)
	}
	for _, p := range t.Body {
		switch p.Kind {
		case api.PremiseLit:
			r.literal(p.Lit, bind)
		case api.PremiseGuard:
			r.guard(p.Guard, bind)
		case api.PremiseUnlike:
			r.unlike(p.A, vars)
			r.unlike(p.B, vars)
		default:
			r.fail(api.ErrArg)
		}
	}
	r.literal(t.Head, bind)
	return vars
}

// unlike asks of one of the two: its place has no kind.
func (r *resolver) unlike(arg string, vars *scope) {
	if symbols.IsVar(arg) {
		vars.stand(arg)
		return
	}
	r.findMember(arg)
}

// findMember: the number of the member that an argument names.
func (r *resolver) findMember(arg string) int {
	r.want(symbols.IsName(arg), api.ErrSymbol)
	return r.find(r.members, arg, api.ErrName)
}

// literal asks of a literal, and bind of the variables in it: the ground literal, if there are none.
func (r *resolver) literal(l api.LitText, bind func(name string, kind int)) api.Lit {
	p := r.findPred(l.Pred)
	r.want(p.Sort != api.SortNumber, api.ErrSort)
	args := r.arguments(p, l.Args, bind)
	r.want(l.HasValue == (p.Sort == api.SortAmount), api.ErrSort)
	r.want(l.HasValue || l.Value == 0, api.ErrSort)
	r.want(!l.HasValue || slices.Contains(p.Values, l.Value), api.ErrValue)
	return api.Lit{Neg: l.Neg, Atom: api.Atom{Pred: r.preds[l.Pred], Args: args, Value: l.Value}}
}

// arguments asks of each argument in its place: the numbers of those that are members.
func (r *resolver) arguments(p api.PredText, args []string, bind func(name string, kind int)) []int {
	r.want(len(args) == len(p.Kinds), api.ErrArity)
	var members []int
	for i, arg := range args {
		if symbols.IsVar(arg) {
			bind(arg, r.kinds[p.Kinds[i]])
			continue
		}
		m := r.findMember(arg)
		r.want(r.statute.Members[m].Kind == p.Kinds[i], api.ErrKind)
		members = append(members, m)
	}
	return members
}

func (r *resolver) guard(g api.GuardText, bind func(name string, kind int)) {
	r.want(g.Op >= api.OpLess && g.Op <= api.OpMore, api.ErrGuard)
	r.want(isSide(g.Left) && isSide(g.Right), api.ErrGuard)
	for _, t := range g.Left {
		r.term(t, bind)
	}
	for _, t := range g.Right {
		r.term(t, bind)
	}
}

func isSide(terms []api.TermText) bool {
	return len(terms) >= 1 && len(terms) <= api.MaxTerms
}

func (r *resolver) term(t api.TermText, bind func(name string, kind int)) {
	if t.Pred == "" {
		r.want(t.Coef == 0 && len(t.Args) == 0, api.ErrGuard)
		r.want(money.Check(t.Value) == api.OK, api.ErrOver)
		return
	}
	p := r.findPred(t.Pred)
	r.want(p.Sort == api.SortNumber, api.ErrSort)
	r.want(t.Coef != 0 && t.Coef >= -api.MaxCoef && t.Coef <= api.MaxCoef && t.Value == 0, api.ErrGuard)
	r.arguments(p, t.Args, bind)
}
