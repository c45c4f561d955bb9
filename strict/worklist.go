package strict

import "iter"

// worklist of literals below that number: put says whether one comes for the first time, and only then puts it in; waiting hands them out in the order in which they came, those too that come meanwhile.
func worklist(lits int) (put func(lit int) bool, waiting iter.Seq[int]) {
	came := make([]bool, lits)
	var queue []int
	put = func(lit int) bool {
		if came[lit] {
			return false
		}
		came[lit] = true
		queue = append(queue, lit)
		return true
	}
	waiting = func(yield func(lit int) bool) {
		for len(queue) > 0 {
			lit := queue[0]
			queue = queue[1:]
			if !yield(lit) {
				return
			}
		}
	}
	return put, waiting
}
