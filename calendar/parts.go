package calendar

import "lexprior/api"

// parts is a day by its year, month and day.
type parts struct {
	year  int
	month int
	day   int
}

// exists: is there such a day? The methods below are for days that there are.
func (p parts) exists() bool {
	return isMonth(p.year, p.month) && p.day >= 1 && p.day <= monthLength(p.year, p.month)
}

func (p parts) date() api.Date {
	before := p.year - 1
	days := before*365 + before/4 - before/100 + before/400
	for i := range p.month - 1 {
		days += monthLength(p.year, i+1)
	}
	return api.Date(days + p.day)
}

// months: how many there are ahead of the day's own.
func (p parts) months() int {
	return (p.year-1)*monthsOfAYear + p.month - 1
}

// earlierInYear: does p's place in a year come ahead of q's?
func (p parts) earlierInYear(q parts) bool {
	if p.month != q.month {
		return p.month < q.month
	}
	return p.day < q.day
}

func partsOf(d api.Date) parts {
	year, left := yearOf(int(d - firstDate))
	month := 1
	for left >= monthLength(year, month) {
		left -= monthLength(year, month)
		month++
	}
	return parts{year, month, left + 1}
}

// span is a row of years with its days, and how often at most it lies whole ahead of a day of the next greater span.
type span struct {
	years int
	days  int
	most  int
}

// yearOf: the year that so many days behind the first day lie in, and how many of them are its own.
func yearOf(days int) (int, int) {
	// Four centuries are a day more than four times the first, and so are four years: that day is the fourth's last, not a fifth's first.
	spans := [...]span{{400, 146097, lastYear / 400}, {100, 36524, 3}, {4, 1461, 24}, {1, 365, 3}}
	year := 1
	for _, s := range spans {
		times := min(days/s.days, s.most)
		year += times * s.years
		days -= times * s.days
	}
	return year, days
}
