package ground

import (
	"slices"

	"lexprior/api"
	"lexprior/guards"
	"lexprior/literals"
	"lexprior/resolve"
)

// instance is a schema, by its number, under an assignment.
type instance struct {
	schema  int
	members []int
}

// builder makes the ground of a statute that resolve.Check takes. It gathers all instances ahead of their literals, since too many instances are told ahead of too many literals.
type builder struct {
	statute   api.Statute
	schemas   []schema
	instances []instance

	lits   []api.Lit   // of instances, as they came
	guards []api.Guard // likewise
}

// addInstances: of the next schema, which has that number. Are there not too many?
func (b *builder) addInstances(number int) bool {
	next := schemaOf(b.statute, number)
	b.schemas = append(b.schemas, next)
	return next.walk.instances(api.MaxRules-len(b.instances), func(members []int) {
		b.instances = append(b.instances, instance{schema: number, members: slices.Clone(members)})
	})
}

// gather: the literals and the guards of all instances.
func (b *builder) gather() {
	for _, one := range b.instances {
		of := b.schemas[one.schema]
		b.lits = append(b.lits, of.head.under(one.members))
		for _, p := range of.lits {
			b.lits = append(b.lits, p.under(one.members))
		}
		for _, c := range of.guards {
			b.addGuard(c, one.members)
		}
	}
}

func (b *builder) addGuard(c *comparison, members []int) {
	sign := c.sign(members)
	if _, there := c.came[sign]; !there {
		c.came[sign] = len(b.guards)
		b.guards = append(b.guards, c.under(members))
	}
}

// ordered: the guards, rising, each once; and of each that came its place there.
func ordered(came []api.Guard) ([]api.Guard, []int) {
	order := make([]int, len(came))
	for n := range order {
		order[n] = n
	}
	slices.SortFunc(order, func(a, b int) int { return guards.Compare(came[a], came[b]) })
	var once []api.Guard
	places := make([]int, len(came))
	for _, n := range order {
		if len(once) == 0 || guards.Compare(once[len(once)-1], came[n]) != 0 {
			once = append(once, came[n])
		}
		places[n] = len(once) - 1
	}
	return once, places
}

// ground: of all instances that were added.
func (b *builder) ground() (api.Ground, api.Errno) {
	b.gather()
	class := resolve.Class(b.statute)
	lits, errno := literals.Close(b.statute.Preds, class, b.lits)
	if errno != api.OK {
		return api.Ground{}, errno
	}
	all, places := ordered(b.guards)
	if len(lits)+len(all) > api.MaxLits {
		return api.Ground{}, api.ErrLits
	}
	rules, schemas := b.rules(lits, places)
	for n := range all {
		lits = append(lits, api.Lit{Guard: n + 1})
	}
	foes, errno := literals.Foes(class, resolve.Sorts(b.statute), lits)
	if errno != api.OK {
		return api.Ground{}, errno
	}
	if pairs(foes, rules) > api.MaxPairs {
		return api.Ground{}, api.ErrPairs
	}
	t := api.Theory{Lits: len(lits), Foes: foes, Rules: rules, Beats: make([][]int, len(rules))}
	return api.Ground{Lits: lits, Guards: all, Schema: schemas, Theory: t}, api.OK
}

// rules: of each instance its rule and its schema's number, if these are the literals that are no guards', and the guards that came have these places behind them.
func (b *builder) rules(lits []api.Lit, guardPlaces []int) ([]api.Rule, []int) {
	numbers := map[key]int{}
	for n, l := range lits {
		numbers[keyOf(l)] = n
	}
	var rules []api.Rule
	var schemas []int
	for _, one := range b.instances {
		of := b.schemas[one.schema]
		var body []int
		for _, p := range of.lits {
			body = append(body, numbers[keyOf(p.under(one.members))])
		}
		for _, c := range of.guards {
			body = append(body, len(lits)+guardPlaces[c.came[c.sign(one.members)]])
		}
		slices.Sort(body)
		head := numbers[keyOf(of.head.under(one.members))]
		rules = append(rules, api.Rule{Kind: of.arrow, Head: head, Body: slices.Compact(body)})
		schemas = append(schemas, one.schema)
	}
	return rules, schemas
}

// pairs: how many ordered pairs of rules have heads that are foes.
func pairs(foes [][]int, rules []api.Rule) int {
	heads := make([]int, len(foes))
	for _, r := range rules {
		heads[r.Head]++
	}
	count := 0
	for a, list := range foes {
		for _, b := range list {
			count += heads[a] * heads[b]
		}
	}
	return count
}
