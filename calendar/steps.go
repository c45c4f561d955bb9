package calendar

import "lexprior/api"

// Months: so many on.
func Months(d api.Date, n int) (api.Date, api.Errno) {
	if !isDay(d) {
		return 0, api.ErrDate
	}
	p := partsOf(d)
	// Asked of n alone, since a sum with n may be greater than an int holds.
	if n < -p.months() || n >= lastYear*monthsOfAYear-p.months() {
		return 0, api.ErrRange
	}
	return p.stepped(n).date(), api.OK
}

// stepped: the parts of the day n months on, which there must be.
func (p parts) stepped(n int) parts {
	months := p.months() + n
	year := months/monthsOfAYear + 1
	month := months%monthsOfAYear + 1
	return parts{year, month, min(p.day, monthLength(year, month))}
}

// Age: how many birthdays.
func Age(born api.Date, at api.Date) (int, api.Errno) {
	if !isDay(born) || !isDay(at) {
		return 0, api.ErrDate
	}
	if at < born {
		return 0, api.ErrOrder
	}
	birth, now := partsOf(born), partsOf(at)
	years := now.year - birth.year
	// A 29th of February needs no case of its own: in a common year the earliest day that is not ahead of it is the first of March.
	if now.earlierInYear(birth) {
		years--
	}
	return years, api.OK
}
