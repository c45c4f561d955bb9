package ground

import (
	"lexprior/api"
	"lexprior/resolve"
)

// mostAssignments is how many a schema may have, whether or not they are instances.
const mostAssignments = 65536

// walk goes through a schema's assignments.
type walk struct {
	ranges [][]int       // of each variable the members of its kind
	unlike [][2]argument // what has to be unlike in an instance
}

// walkOf: of variables of these kinds, and the premises of unlike arguments among those of a body.
func walkOf(s api.Statute, kinds []int, n names, body []api.PremiseText) walk {
	var w walk
	for _, kind := range kinds {
		w.ranges = append(w.ranges, resolve.Of(s, kind))
	}
	for _, p := range body {
		if p.Kind == api.PremiseUnlike {
			w.unlike = append(w.unlike, [2]argument{n.argument(p.A), n.argument(p.B)})
		}
	}
	return w
}

// count: how many assignments there are; of too many no more than one too many, since the product may pass its word.
func (w walk) count() int {
	product := 1
	for _, members := range w.ranges {
		product = min(product*len(members), mostAssignments+1)
	}
	return product
}

// isInstance: whether all that has to be unlike is so.
func (w walk) isInstance(members []int) bool {
	for _, pair := range w.unlike {
		if pair[0].under(members) == pair[1].under(members) {
			return false
		}
	}
	return true
}

// settled: an assignment in which each variable that has no choice has its member; and the others, of which there are few if there are not too many assignments.
func (w walk) settled() (members []int, open []int) {
	members = make([]int, len(w.ranges))
	for v, choice := range w.ranges {
		if len(choice) == 1 {
			members[v] = choice[0]
			continue
		}
		open = append(open, v)
	}
	return members, open
}

// each hands the assignments to take, in order, till it says no; they share their memory. Did it never say no?
func (w walk) each(take func(members []int) bool) bool {
	members, open := w.settled()
	var assign func(open []int) bool
	assign = func(open []int) bool {
		if len(open) == 0 {
			return take(members)
		}
		for _, member := range w.ranges[open[0]] {
			members[open[0]] = member
			if !assign(open[1:]) {
				return false
			}
		}
		return true
	}
	return assign(open)
}

// instances hands the assignments of instances to take, in order, but no more than most. Were these all, and the assignments not too many?
func (w walk) instances(most int, take func(members []int)) bool {
	switch count := w.count(); {
	case count > mostAssignments:
		return false
	case count == 0:
		// The kind without members may be the last of many variables: these are not gone through in vain.
		return true
	}
	taken := 0
	return w.each(func(members []int) bool {
		if !w.isInstance(members) {
			return true
		}
		if taken == most {
			return false
		}
		taken++
		take(members)
		return true
	})
}
