package guards

import (
	"math/bits"

	"lexprior/api"
)

// sum is a number of 128 bits, its low word first. Numbers may be as great as a word holds, so that a guard's sum passes one word; it passes no two. Its methods without an argument are the Ops: how it compares with 0.
type sum [2]uint64

func (s sum) less() bool {
	return int64(s[1]) < 0
}

func (s sum) most() bool {
	return s.less() || s.equal()
}

func (s sum) equal() bool {
	return s == sum{}
}

func (s sum) unequal() bool {
	return !s.equal()
}

func (s sum) least() bool {
	return !s.less()
}

func (s sum) more() bool {
	return !s.most()
}

func (s sum) plus(other sum) sum {
	low, carry := bits.Add64(s[0], other[0], 0)
	high, _ := bits.Add64(s[1], other[1], carry)
	return sum{low, high}
}

func product(coef int64, value api.Money) sum {
	high, low := bits.Mul64(uint64(coef), uint64(value))
	// As a word without a sign, a number below 0 is greater by 2^64: the other one stands in the high word too often.
	if coef < 0 {
		high -= uint64(value)
	}
	if value < 0 {
		high -= uint64(coef)
	}
	return sum{low, high}
}

// comparison is what an Op says.
type comparison struct {
	text     string
	opposite api.Op
	holds    func(s sum) bool
}

// comparisonOf: false, if it is none of the six.
func comparisonOf(op api.Op) (comparison, bool) {
	switch op {
	case api.OpLess:
		return comparison{"<", api.OpLeast, sum.less}, true
	case api.OpMost:
		return comparison{"<=", api.OpMore, sum.most}, true
	case api.OpEqual:
		return comparison{"==", api.OpUnequal, sum.equal}, true
	case api.OpUnequal:
		return comparison{"<>", api.OpEqual, sum.unequal}, true
	case api.OpLeast:
		return comparison{">=", api.OpLess, sum.least}, true
	case api.OpMore:
		return comparison{">", api.OpMost, sum.more}, true
	}
	return comparison{}, false
}
