package money

import (
	"math/bits"

	"lexprior/api"
)

// mostFactor is the greatest part of a fraction that an amount is scaled by.
const mostFactor = 1_000_000_000

// Round is how a part of a cent is rounded.
type Round int

const (
	RoundDown Round = iota + 1
	RoundUp
	RoundFloor
	RoundCeil
	RoundHalf
	RoundEven
)

// Scale: times a fraction, rounded.
func Scale(m api.Money, num int64, den int64, r Round) (api.Money, api.Errno) {
	if errno := Check(m); errno != api.OK {
		return 0, errno
	}
	if den < 1 || den > mostFactor || num < -mostFactor || num > mostFactor {
		return 0, api.ErrRange
	}
	round, known := roundings()[r]
	if !known {
		return 0, api.ErrArg
	}
	exact, held := product(m, num, den)
	if !held {
		return 0, api.ErrOver
	}
	cents := round(exact)
	if cents > Most {
		return 0, api.ErrOver
	}
	if exact.below {
		return -api.Money(cents), api.OK
	}
	return api.Money(cents), api.OK
}

// roundings: of each rounding the method that does it.
func roundings() map[Round]func(fraction) uint64 {
	return map[Round]func(fraction) uint64{
		RoundDown:  fraction.down,
		RoundUp:    fraction.up,
		RoundFloor: fraction.floor,
		RoundCeil:  fraction.ceil,
		RoundHalf:  fraction.half,
		RoundEven:  fraction.even,
	}
}

// fraction is an exact number of cents: whole + rest/den, below 0 or not. Its methods answer the size of the rounded number, whose sign is the same.
type fraction struct {
	below bool
	whole uint64
	rest  uint64
	den   uint64
}

// product: the exact m * num / den; false if its whole cents are more than Most.
func product(m api.Money, num int64, den int64) (fraction, bool) {
	high, low := bits.Mul64(size(int64(m)), size(num))
	// Else Div64 has no word for the quotient, which is more than Most by far.
	if high >= uint64(den) {
		return fraction{}, false
	}
	whole, rest := bits.Div64(high, low, uint64(den))
	below := (m < 0) != (num < 0)
	return fraction{below, whole, rest, uint64(den)}, whole <= Most
}

// size: a number without its sign.
func size(n int64) uint64 {
	if n < 0 {
		return uint64(-n)
	}
	return uint64(n)
}

func (f fraction) down() uint64 {
	return f.whole
}

func (f fraction) up() uint64 {
	return f.next(f.rest > 0)
}

func (f fraction) floor() uint64 {
	if f.below {
		return f.up()
	}
	return f.down()
}

func (f fraction) ceil() uint64 {
	if f.below {
		return f.down()
	}
	return f.up()
}

func (f fraction) half() uint64 {
	return f.next(2*f.rest >= f.den)
}

func (f fraction) even() uint64 {
	if 2*f.rest == f.den {
		return f.next(f.whole%2 == 1)
	}
	return f.half()
}

// next: the whole cents, or one more.
func (f fraction) next(more bool) uint64 {
	if more {
		return f.whole + 1
	}
	return f.whole
}
