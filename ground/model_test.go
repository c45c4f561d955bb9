package ground_test

import (
	"math/big"
	"slices"
	"strings"

	"lexprior/api"
	"lexprior/guards"
	"lexprior/literals"
	"lexprior/printer"
	"lexprior/resolve"
)

// placed is an argument in a place of a kind; of a premise of unlike ones the place has none.
type placed struct {
	name string
	kind string
}

func modelPred(s api.Statute, name string) int {
	return slices.IndexFunc(s.Preds, func(p api.PredText) bool { return p.Name == name })
}

func modelMember(s api.Statute, name string) int {
	return slices.IndexFunc(s.Members, func(m api.MemberText) bool { return m.Name == name })
}

// modelPlaces: all arguments of a rule, in the order of its text.
func modelPlaces(s api.Statute, r api.RuleText) []placed {
	var all []placed
	stand := func(pred string, args []string) {
		for n, name := range args {
			all = append(all, placed{name, s.Preds[modelPred(s, pred)].Kinds[n]})
		}
	}
	for _, p := range r.Body {
		switch p.Kind {
		case api.PremiseLit:
			stand(p.Lit.Pred, p.Lit.Args)
		case api.PremiseGuard:
			for _, term := range append(slices.Clone(p.Guard.Left), p.Guard.Right...) {
				stand(term.Pred, term.Args)
			}
		case api.PremiseUnlike:
			all = append(all, placed{p.A, ""}, placed{p.B, ""})
		}
	}
	stand(r.Head.Pred, r.Head.Args)
	return all
}

// modelVars: a rule's variables, and of each the members that it ranges over.
func modelVars(s api.Statute, r api.RuleText) ([]string, [][]int) {
	var names []string
	places := modelPlaces(s, r)
	for _, p := range places {
		if strings.ToLower(p.name) != p.name && !slices.Contains(names, p.name) {
			names = append(names, p.name)
		}
	}
	ranges := make([][]int, len(names))
	for n, name := range names {
		at := slices.IndexFunc(places, func(p placed) bool { return p.name == name && p.kind != "" })
		for number, m := range s.Members {
			if m.Kind == places[at].kind {
				ranges[n] = append(ranges[n], number)
			}
		}
	}
	return names, ranges
}

// put: a rule with members' names for its variables.
func put(s api.Statute, r api.RuleText, names []string, members []int) api.RuleText {
	name := func(arg string) string {
		if n := slices.Index(names, arg); n >= 0 {
			return s.Members[members[n]].Name
		}
		return arg
	}
	all := func(args []string) []string {
		var others []string
		for _, arg := range args {
			others = append(others, name(arg))
		}
		return others
	}
	side := func(terms []api.TermText) []api.TermText {
		var others []api.TermText
		for _, t := range terms {
			t.Args = all(t.Args)
			others = append(others, t)
		}
		return others
	}
	r.Head.Args = all(r.Head.Args)
	r.Body = slices.Clone(r.Body)
	for n, p := range r.Body {
		p.Lit.Args, p.A, p.B = all(p.Lit.Args), name(p.A), name(p.B)
		p.Guard.Left, p.Guard.Right = side(p.Guard.Left), side(p.Guard.Right)
		r.Body[n] = p
	}
	return r
}

// modelAssignments: those of instances, and the rules without variables that come of them; or that there are too many. Each is counted out of its number.
func modelAssignments(s api.Statute, schema int, most int) ([][]int, []api.RuleText, bool) {
	r := s.Rules[schema]
	names, ranges := modelVars(s, r)
	product := big.NewInt(1)
	for _, members := range ranges {
		product.Mul(product, big.NewInt(int64(len(members))))
	}
	if product.Cmp(big.NewInt(65536)) > 0 {
		return nil, nil, false
	}
	var all [][]int
	var rules []api.RuleText
	for number := range int(product.Int64()) {
		members := make([]int, len(names))
		for v := len(names) - 1; v >= 0; v-- {
			members[v] = ranges[v][number%len(ranges[v])]
			number /= len(ranges[v])
		}
		rule := put(s, r, names, members)
		if slices.ContainsFunc(rule.Body, func(p api.PremiseText) bool { return p.Kind == api.PremiseUnlike && p.A == p.B }) {
			continue
		}
		all, rules = append(all, members), append(rules, rule)
		if len(all) > most {
			return nil, nil, false
		}
	}
	return all, rules, true
}

func modelLit(s api.Statute, l api.LitText) api.Lit {
	lit := api.Lit{Neg: l.Neg, Atom: api.Atom{Pred: modelPred(s, l.Pred), Value: l.Value}}
	for _, name := range l.Args {
		lit.Atom.Args = append(lit.Atom.Args, modelMember(s, name))
	}
	return lit
}

// modelFoes: of all literals that a statute can have those in conflict with one.
func modelFoes(s api.Statute, l api.Lit) []api.Lit {
	class, sorts := resolve.Class(s), resolve.Sorts(s)
	var foes []api.Lit
	for n, p := range s.Preds {
		if len(p.Kinds) != len(l.Atom.Args) || p.Sort == api.SortNumber {
			continue
		}
		values := p.Values
		if p.Sort == api.SortPlain {
			values = []api.Money{0}
		}
		for _, value := range values {
			for _, neg := range []bool{false, true} {
				other := api.Lit{Neg: neg, Atom: api.Atom{Pred: n, Args: l.Atom.Args, Value: value}}
				if literals.Conflict(class, sorts, l, other) {
					foes = append(foes, other)
				}
			}
		}
	}
	return foes
}

// sorted: each once.
func sorted[T any](list []T, compare func(a, b T) int) []T {
	list = slices.Clone(list)
	slices.SortFunc(list, compare)
	return slices.CompactFunc(list, func(a, b T) bool { return compare(a, b) == 0 })
}

// modelParts: all literals of rules without variables, their foes with them, and all guards.
func modelParts(s api.Statute, rules []api.RuleText) ([]api.Lit, []api.Guard) {
	var lits []api.Lit
	var all []api.Guard
	for _, r := range rules {
		lits = append(lits, modelLit(s, r.Head))
		for _, p := range r.Body {
			switch p.Kind {
			case api.PremiseLit:
				lits = append(lits, modelLit(s, p.Lit))
			case api.PremiseGuard:
				g, _ := guards.Of(s, p.Guard, nil, nil)
				all = append(all, g)
			}
		}
	}
	lits, all = sorted(lits, literals.Compare), sorted(all, guards.Compare)
	for _, l := range lits[:len(lits):len(lits)] {
		lits = append(lits, modelFoes(s, l)...)
	}
	lits = sorted(lits, literals.Compare)
	for n := range all {
		lits = append(lits, api.Lit{Guard: n + 1})
	}
	return lits, all
}

// modelRule: over the numbers of these literals.
func modelRule(s api.Statute, r api.RuleText, lits []api.Lit, all []api.Guard) api.Rule {
	place := func(l api.Lit) int {
		n, _ := slices.BinarySearchFunc(lits, l, literals.Compare)
		return n
	}
	rule := api.Rule{Kind: r.Arrow, Head: place(modelLit(s, r.Head))}
	for _, p := range r.Body {
		switch p.Kind {
		case api.PremiseLit:
			rule.Body = append(rule.Body, place(modelLit(s, p.Lit)))
		case api.PremiseGuard:
			g, _ := guards.Of(s, p.Guard, nil, nil)
			n, _ := slices.BinarySearchFunc(all, g, guards.Compare)
			rule.Body = append(rule.Body, len(lits)-len(all)+n)
		}
	}
	slices.Sort(rule.Body)
	rule.Body = slices.Compact(rule.Body)
	return rule
}

// modelGround: the rules without variables are made as texts first, and numbered then.
func modelGround(s api.Statute) (api.Ground, api.Errno, int) {
	if errno, place := resolve.Check(s); errno != api.OK {
		return api.Ground{}, errno, place
	}
	var g api.Ground
	var texts []api.RuleText
	for schema := range s.Rules {
		_, rules, fit := modelAssignments(s, schema, 4096-len(texts))
		if !fit {
			return api.Ground{}, api.ErrGround, schema
		}
		texts = append(texts, rules...)
		for range rules {
			g.Schema = append(g.Schema, schema)
		}
	}
	g.Lits, g.Guards = modelParts(s, texts)
	if len(g.Lits) > 4096 {
		return api.Ground{}, api.ErrLits, len(s.Rules)
	}
	for _, r := range texts {
		g.Theory.Rules = append(g.Theory.Rules, modelRule(s, r, g.Lits, g.Guards))
	}
	g.Theory.Lits, g.Theory.Foes, g.Theory.Beats = len(g.Lits), foesAmong(s, g.Lits), make([][]int, len(texts))
	if modelPairs(g.Theory) > 65536 {
		return api.Ground{}, api.ErrPairs, len(s.Rules)
	}
	return g, api.OK, len(s.Rules)
}

// foesAmong: each held against each, if their arguments are the same.
func foesAmong(s api.Statute, lits []api.Lit) [][]int {
	class, sorts := resolve.Class(s), resolve.Sorts(s)
	foes := make([][]int, len(lits))
	for a, one := range lits {
		for b, other := range lits {
			if slices.Equal(one.Atom.Args, other.Atom.Args) && literals.Conflict(class, sorts, one, other) {
				foes[a] = append(foes[a], b)
			}
		}
	}
	return foes
}

// modelPairs: each rule held against each.
func modelPairs(t api.Theory) int {
	count := 0
	for _, a := range t.Rules {
		for _, b := range t.Rules {
			if slices.Contains(t.Foes[a.Head], b.Head) {
				count++
			}
		}
	}
	return count
}

// modelLine: a rule without variables as ruleLines tells it, but for the order of its body: sorted by texts.
func modelLine(s api.Statute, schema int, members []int, r api.RuleText) string {
	line := s.Rules[schema].Name
	var names []string
	for _, m := range members {
		names = append(names, s.Members[m].Name)
	}
	if len(names) > 0 {
		line += "[" + strings.Join(names, ",") + "]"
	}
	var body []string
	for _, p := range r.Body {
		switch p.Kind {
		case api.PremiseLit:
			body = append(body, modelText(p.Lit))
		case api.PremiseGuard:
			g, _ := guards.Of(s, p.Guard, nil, nil)
			text, _ := guards.Print(s, g)
			body = append(body, text)
		}
	}
	slices.Sort(body)
	return line + ": " + strings.Join(slices.Compact(body), "; ") + [...]string{"", " -> ", " => ", " ~> "}[r.Arrow] + modelText(r.Head)
}

// modelText: as the printer tells it, but for the blanks between arguments.
func modelText(l api.LitText) string {
	text, errno := printer.Literal(l)
	if errno != api.OK {
		return "no form"
	}
	return strings.ReplaceAll(text, ", ", ",")
}
