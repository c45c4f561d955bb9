package calendar_test

import (
	"math"
	"testing"

	"lexprior/api"
	"lexprior/calendar"
)

const allMonths = 9999 * 12

// monthsOn: what Months must answer, by steps of a month at a time behind the whole years.
func monthsOn(year, month, day, n int) (api.Date, api.Errno) {
	year, n = year+n/12, n%12
	for ; n > 0; n-- {
		if month++; month > 12 {
			year, month = year+1, 1
		}
	}
	for ; n < 0; n++ {
		if month--; month < 1 {
			year, month = year-1, 12
		}
	}
	if year < 1 || year > 9999 {
		return 0, api.ErrRange
	}
	if last := lengthOf(year, month); day > last {
		day = last
	}
	return dateOf(year, month, day), api.OK
}

func TestMonthsStepByStep(t *testing.T) {
	counts := []int{0, 1, -1, 2, -2, 11, -11, 12, -12, 13, -13, 23, 24, 25, -25, 47, 48, 49, -48, 1199, 1200, -1200, 4799, 4800, -4800, 12345, -12345, 95999, -95999, allMonths - 1, 1 - allMonths, allMonths, -allMonths}
	for _, year := range yearsToLook() {
		for month := 1; month <= 12; month++ {
			for _, day := range []int{1, 15, 28, 29, 30, 31} {
				if day > lengthOf(year, month) {
					continue
				}
				for _, n := range counts {
					want, wantErrno := monthsOn(year, month, day, n)
					if d, errno := calendar.Months(dateOf(year, month, day), n); d != want || errno != wantErrno {
						t.Fatalf("P3.3: %d months behind %d-%d-%d: %d, %d, want %d, %d", n, year, month, day, d, errno, want, wantErrno)
					}
				}
			}
		}
	}
}

func TestMonthsByTexts(t *testing.T) {
	for _, c := range []struct {
		from string
		n    int
		to   string
	}{
		{"2021-01-31", 0, "2021-01-31"},
		{"2021-01-31", 1, "2021-02-28"},
		{"2021-01-31", 3, "2021-04-30"},
		{"2021-01-31", -11, "2020-02-29"},
		{"2021-03-31", -1, "2021-02-28"},
		{"2020-03-31", -1, "2020-02-29"},
		{"2020-02-29", 12, "2021-02-28"},
		{"2020-02-29", 48, "2024-02-29"},
		{"2000-02-29", 1200, "2100-02-28"},
		{"2000-02-29", 4800, "2400-02-29"},
		{"2021-02-28", 1, "2021-03-28"},
		{"2021-12-31", 1, "2022-01-31"},
		{"2022-01-01", -1, "2021-12-01"},
		{"0001-01-01", allMonths - 1, "9999-12-01"},
		{"0001-01-31", allMonths - 1, "9999-12-31"},
		{"9999-12-31", 1 - allMonths, "0001-01-31"},
		{"0001-02-28", -1, "0001-01-28"},
		{"9999-11-30", 1, "9999-12-30"},
	} {
		if d, errno := calendar.Months(mustParse(t, c.from), c.n); d != mustParse(t, c.to) || errno != api.OK {
			t.Errorf("P3.3: %d months behind %s: %d, %d, want %s", c.n, c.from, d, errno, c.to)
		}
	}
}

func TestMonthsOutOfRange(t *testing.T) {
	for _, c := range []struct {
		from string
		n    int
	}{
		{"0001-01-01", -1},
		{"0001-01-31", -1},
		{"0001-12-31", -12},
		{"0002-01-01", -13},
		{"9999-12-01", 1},
		{"9999-12-31", 1},
		{"9999-01-01", 12},
		{"9998-12-01", 13},
		{"0001-01-01", allMonths},
		{"9999-12-31", -allMonths},
		{"2000-02-29", 100_000},
		{"2000-02-29", -100_000},
	} {
		if d, errno := calendar.Months(mustParse(t, c.from), c.n); d != 0 || errno != api.ErrRange {
			t.Errorf("P3.3: %d months behind %s: %d, %d", c.n, c.from, d, errno)
		}
	}
	for _, d := range []api.Date{firstDate, 31, 730179, lastDate - 30, lastDate} {
		for near := range 2 * allMonths {
			for _, n := range []int{math.MinInt + near, math.MaxInt - near} {
				if got, errno := calendar.Months(d, n); got != 0 || errno != api.ErrRange {
					t.Fatalf("P3.3: Months(%d, %d) = %d, %d", d, n, got, errno)
				}
			}
		}
		for _, n := range []int{math.MinInt32, math.MaxInt32, -lastDate, lastDate} {
			if got, errno := calendar.Months(d, n); got != 0 || errno != api.ErrRange {
				t.Errorf("P3.3: Months(%d, %d) = %d, %d", d, n, got, errno)
			}
		}
	}
}

func TestMonthsOfNoDay(t *testing.T) {
	for _, d := range noDays() {
		for _, n := range []int{0, 1, -1, 100_000, math.MinInt, math.MaxInt} {
			if got, errno := calendar.Months(d, n); got != 0 || errno != api.ErrDate {
				t.Errorf("P3.3, P4: Months(%d, %d) = %d, %d", d, n, got, errno)
			}
		}
	}
}

func TestMonthsByNone(t *testing.T) {
	for d := api.Date(firstDate); d <= lastDate; d += 5 {
		if got, errno := calendar.Months(d, 0); got != d || errno != api.OK {
			t.Fatalf("P3.6: Months(%d, 0) = %d, %d", d, got, errno)
		}
	}
}

// TestMonthsInTwoSteps: of a day that each month has, two steps are one, where none refuses.
func TestMonthsInTwoSteps(t *testing.T) {
	steps := []int{0, 1, -1, 5, -7, 12, -12, 13, 25, -37, 1201, -2399, 40_000, -40_000, allMonths - 1, 1 - allMonths}
	for _, year := range yearsToLook() {
		for month := 1; month <= 12; month++ {
			for _, day := range []int{1, 2, 27, 28} {
				d := dateOf(year, month, day)
				for _, a := range steps {
					for _, b := range steps {
						checkTwoSteps(t, d, a, b)
					}
				}
			}
		}
	}
}

func checkTwoSteps(t *testing.T, d api.Date, a, b int) {
	t.Helper()
	between, errno := calendar.Months(d, a)
	if errno != api.OK {
		return
	}
	end, errno := calendar.Months(between, b)
	if errno != api.OK {
		return
	}
	if whole, errno := calendar.Months(d, a+b); whole != end || errno != api.OK {
		t.Fatalf("P3.6: Months of %d by %d, then by %d is %d, by both %d, %d", d, a, b, end, whole, errno)
	}
}

// birthdays: what Age must answer: the anniversaries are counted one by one, as the promise says them.
func birthdays(born, at api.Date) int {
	year, month, day, _ := calendar.Parts(born)
	n := 0
	for anniversary(year+n+1, month, day) <= at {
		n++
	}
	return n
}

func anniversary(year, month, day int) api.Date {
	if day > lengthOf(year, month) {
		return dateOf(year, 3, 1)
	}
	return dateOf(year, month, day)
}

func TestAgeAroundBirthdays(t *testing.T) {
	for _, s := range []string{"2000-02-29", "2004-02-29", "1896-02-29", "1600-02-29", "0004-02-29", "9996-02-29", "2000-02-28", "2001-02-28", "2000-03-01", "2001-03-01", "1999-12-31", "2000-01-01", "2000-01-31", "2000-06-15", "0001-01-01", "0001-12-31", "9990-12-31"} {
		born := mustParse(t, s)
		year, month, day, _ := calendar.Parts(born)
		for n := 0; n <= 130 && year+n <= 9999; n++ {
			for near := api.Date(-3); near <= 3; near++ {
				at := anniversary(year+n, month, day) + near
				if at < born || at > lastDate {
					continue
				}
				if age, errno := calendar.Age(born, at); age != birthdays(born, at) || errno != api.OK {
					t.Errorf("P3.3: Age(%s, %d) = %d, %d, want %d", s, at, age, errno, birthdays(born, at))
				}
			}
		}
	}
}

func TestAgeByTexts(t *testing.T) {
	for _, c := range []struct {
		born, at string
		want     int
	}{
		{"2000-02-29", "2000-02-29", 0},
		{"2000-02-29", "2000-03-01", 0},
		{"2000-02-29", "2001-02-28", 0},
		{"2000-02-29", "2001-03-01", 1},
		{"2000-02-29", "2003-02-28", 2},
		{"2000-02-29", "2003-03-01", 3},
		{"2000-02-29", "2004-02-28", 3},
		{"2000-02-29", "2004-02-29", 4},
		{"2000-02-29", "2004-03-01", 4},
		{"2000-02-29", "2100-02-28", 99},
		{"2000-02-29", "2100-03-01", 100},
		{"2000-02-29", "2400-02-28", 399},
		{"2000-02-29", "2400-02-29", 400},
		{"2000-02-28", "2001-02-27", 0},
		{"2000-02-28", "2001-02-28", 1},
		{"1999-03-01", "2000-02-29", 0},
		{"1999-03-01", "2000-03-01", 1},
		{"1960-05-17", "2026-05-16", 65},
		{"1960-05-17", "2026-05-17", 66},
		{"1960-05-17", "2026-04-30", 65},
		{"1960-05-17", "2026-06-01", 66},
		{"2000-12-31", "2001-12-30", 0},
		{"2000-12-31", "2001-12-31", 1},
		{"2000-01-01", "2000-12-31", 0},
		{"2000-01-01", "2001-01-01", 1},
		{"0001-01-01", "9999-12-31", 9998},
		{"0001-12-31", "9999-12-30", 9997},
		{"0001-12-31", "9999-12-31", 9998},
		{"9999-12-31", "9999-12-31", 0},
	} {
		if age, errno := calendar.Age(mustParse(t, c.born), mustParse(t, c.at)); age != c.want || errno != api.OK {
			t.Errorf("P3.3: Age(%s, %s) = %d, %d, want %d", c.born, c.at, age, errno, c.want)
		}
	}
}

// TestAgeDayByDay: it never falls, and rises by at most 1 a day.
func TestAgeDayByDay(t *testing.T) {
	for _, s := range []string{"0001-01-01", "0004-02-29", "1896-02-29", "1999-12-31", "2000-01-01", "2000-02-28", "2000-02-29", "2000-03-01", "9000-07-31"} {
		born := mustParse(t, s)
		before := 0
		for at := born; at <= min(born+500*366, lastDate); at++ {
			age, errno := calendar.Age(born, at)
			if errno != api.OK || age < before || age > before+1 {
				t.Fatalf("P3.6: Age(%s, %d) = %d, %d, the day before %d", s, at, age, errno, before)
			}
			before = age
		}
	}
}

func TestAgeErrors(t *testing.T) {
	for _, none := range noDays() {
		for _, d := range []api.Date{firstDate, 2, 730179, lastDate} {
			if age, errno := calendar.Age(none, d); age != 0 || errno != api.ErrDate {
				t.Errorf("P3.3: Age(%d, %d) = %d, %d", none, d, age, errno)
			}
			if age, errno := calendar.Age(d, none); age != 0 || errno != api.ErrDate {
				t.Errorf("P3.3: Age(%d, %d) = %d, %d", d, none, age, errno)
			}
		}
		for _, other := range noDays() {
			if age, errno := calendar.Age(none, other); age != 0 || errno != api.ErrDate {
				t.Errorf("P3.3: Age(%d, %d) = %d, %d", none, other, age, errno)
			}
		}
	}
	for _, c := range [][2]api.Date{{2, 1}, {lastDate, 1}, {lastDate, lastDate - 1}, {730179, 730178}, {730179, 730179 - 366}} {
		if age, errno := calendar.Age(c[0], c[1]); age != 0 || errno != api.ErrOrder {
			t.Errorf("P3.3: Age(%d, %d) = %d, %d", c[0], c[1], age, errno)
		}
	}
}
