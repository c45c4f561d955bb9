package calendar_test

import (
	"fmt"
	"math"
	"testing"
	"time"

	"lexprior/api"
	"lexprior/calendar"
)

const (
	firstDate = 1
	lastDate  = 3652059
)

// edgeNumbers: those that are far from any day, month or year.
func edgeNumbers() []int {
	return []int{math.MinInt, math.MinInt + 1, math.MinInt32, -lastDate, -9999, -366, -13, -12, -1, math.MaxInt32, math.MaxInt - 1, math.MaxInt}
}

// noDays: numbers of no day, near the first and the last day and far from them.
func noDays() []api.Date {
	l := []api.Date{0, lastDate + 1, lastDate + 2, lastDate + 146097, 2 * lastDate}
	for _, n := range edgeNumbers() {
		l = append(l, api.Date(n))
	}
	return l
}

// lengthOf: a month's days, by the library's calendar: the day ahead of the next month's first.
func lengthOf(year, month int) int {
	return time.Date(year, time.Month(month)+1, 0, 0, 0, 0, 0, time.UTC).Day()
}

// dateOf: a day's number by the library's calendar.
func dateOf(year, month, day int) api.Date {
	first := time.Date(1, 1, 1, 0, 0, 0, 0, time.UTC).Unix()
	then := time.Date(year, time.Month(month), day, 0, 0, 0, 0, time.UTC).Unix()
	return api.Date((then-first)/86400 + 1)
}

// mustParse: the day of a text that must have one.
func mustParse(t *testing.T, s string) api.Date {
	t.Helper()
	d, errno := calendar.Parse(s)
	if errno != api.OK {
		t.Fatalf("P3.2: Parse(%s): %d", s, errno)
	}
	return d
}

// yearsToLook: the first and the last ones, those that 4, 100 and 400 divide, and their neighbours.
func yearsToLook() []int {
	l := []int{1, 2, 3, 9998, 9999}
	for _, year := range []int{4, 8, 100, 400, 800, 1500, 1600, 1700, 1800, 1900, 1996, 2000, 2004, 2100, 2400, 4000, 9600, 9900, 9996} {
		l = append(l, year-1, year, year+1)
	}
	return l
}

// TestEachDay walks from the first day to the last, so that a gap, a day twice or a wrong text can't be missed.
func TestEachDay(t *testing.T) {
	d := api.Date(0)
	for year := 1; year <= 9999; year++ {
		for month := 1; month <= 12; month++ {
			for day := 1; day <= lengthOf(year, month); day++ {
				d++
				if got, errno := calendar.Of(year, month, day); got != d || errno != api.OK {
					t.Fatalf("P3.1, P3.4: Of(%d, %d, %d) = %d, %d, want %d", year, month, day, got, errno, d)
				}
				if y, m, n, errno := calendar.Parts(d); y != year || m != month || n != day || errno != api.OK {
					t.Fatalf("P3.1, P3.4: Parts(%d) = %d, %d, %d, %d, want %d, %d, %d", d, y, m, n, errno, year, month, day)
				}
				if got, errno := calendar.Weekday(d); got != (int(d)+6)%7+1 || errno != api.OK {
					t.Fatalf("P3.3, P3.5: Weekday(%d) = %d, %d", d, got, errno)
				}
			}
		}
	}
	if d != lastDate {
		t.Errorf("P3.1: the last day has the number %d", d)
	}
}

func TestOfKnownDays(t *testing.T) {
	for _, c := range []struct {
		year, month, day int
		want             api.Date
		weekday          int
	}{
		{1, 1, 1, 1, 1},
		{1, 1, 7, 7, 7},
		{1, 1, 8, 8, 1},
		{1, 12, 31, 365, 1},
		{2, 1, 1, 366, 2},
		{4, 12, 31, 1461, 5},
		{5, 1, 1, 1462, 6},
		{100, 12, 31, 36524, 5},
		{400, 12, 31, 146097, 7},
		{401, 1, 1, 146098, 1},
		{1970, 1, 1, 719163, 4},
		{2000, 1, 1, 730120, 6},
		{2000, 2, 29, 730179, 2},
		{2026, 11, 16, 739936, 1},
		{9999, 12, 31, 3652059, 5},
	} {
		d, errno := calendar.Of(c.year, c.month, c.day)
		if d != c.want || errno != api.OK {
			t.Errorf("P3.1: Of(%d, %d, %d) = %d, %d, want %d", c.year, c.month, c.day, d, errno, c.want)
		}
		if w, errno := calendar.Weekday(c.want); w != c.weekday || errno != api.OK {
			t.Errorf("P3.3: Weekday(%d) = %d, %d, want %d", c.want, w, errno, c.weekday)
		}
	}
}

func TestOfNearEachMonth(t *testing.T) {
	for _, year := range append(yearsToLook(), -1, 0, 10000, 10001, 10400) {
		for month := -1; month <= 14; month++ {
			for day := -1; day <= 33; day++ {
				want, wantErrno := api.Date(0), api.ErrDate
				if year >= 1 && year <= 9999 && month >= 1 && month <= 12 && day >= 1 && day <= lengthOf(year, month) {
					want, wantErrno = dateOf(year, month, day), api.OK
				}
				if d, errno := calendar.Of(year, month, day); d != want || errno != wantErrno {
					t.Errorf("P3.1: Of(%d, %d, %d) = %d, %d, want %d, %d", year, month, day, d, errno, want, wantErrno)
				}
			}
		}
	}
}

func TestLastDaysOfFebruary(t *testing.T) {
	for year, leap := range map[int]bool{1: false, 4: true, 99: false, 100: false, 400: true, 1900: false, 1996: true, 1999: false, 2000: true, 2001: false, 2004: true, 2100: false, 2400: true, 9996: true, 9999: false} {
		want, days := api.ErrDate, 28
		if leap {
			want, days = api.OK, 29
		}
		if _, errno := calendar.Of(year, 2, 28); errno != api.OK {
			t.Errorf("P3.1: Of(%d, 2, 28): %d", year, errno)
		}
		if _, errno := calendar.Of(year, 2, 29); errno != want {
			t.Errorf("P3.1: Of(%d, 2, 29): %d, want %d", year, errno, want)
		}
		if d, errno := calendar.Of(year, 2, 30); d != 0 || errno != api.ErrDate {
			t.Errorf("P3.1: Of(%d, 2, 30) = %d, %d", year, d, errno)
		}
		if n, errno := calendar.Days(year, 2); n != days || errno != api.OK {
			t.Errorf("P3.1: Days(%d, 2) = %d, %d, want %d", year, n, errno, days)
		}
	}
}

func TestDays(t *testing.T) {
	for year := -3; year <= 10005; year++ {
		for month := -1; month <= 14; month++ {
			want, wantErrno := 0, api.ErrDate
			if year >= 1 && year <= 9999 && month >= 1 && month <= 12 {
				want, wantErrno = lengthOf(year, month), api.OK
			}
			if n, errno := calendar.Days(year, month); n != want || errno != wantErrno {
				t.Fatalf("P3.1: Days(%d, %d) = %d, %d, want %d, %d", year, month, n, errno, want, wantErrno)
			}
		}
	}
}

func TestNumbersFarOff(t *testing.T) {
	for _, n := range edgeNumbers() {
		for _, c := range [][3]int{{n, 1, 1}, {2000, n, 1}, {2000, 1, n}, {n, n, n}, {n, 2, 29}, {0, 0, n}} {
			if d, errno := calendar.Of(c[0], c[1], c[2]); d != 0 || errno != api.ErrDate {
				t.Errorf("P3.1: Of(%d, %d, %d) = %d, %d", c[0], c[1], c[2], d, errno)
			}
		}
		for _, c := range [][2]int{{n, 1}, {n, 2}, {2000, n}, {n, n}} {
			if days, errno := calendar.Days(c[0], c[1]); days != 0 || errno != api.ErrDate {
				t.Errorf("P3.1: Days(%d, %d) = %d, %d", c[0], c[1], days, errno)
			}
		}
	}
}

func TestNoDays(t *testing.T) {
	for _, d := range noDays() {
		if year, month, day, errno := calendar.Parts(d); year != 0 || month != 0 || day != 0 || errno != api.ErrDate {
			t.Errorf("P3.1: Parts(%d) = %d, %d, %d, %d", d, year, month, day, errno)
		}
		if s, errno := calendar.Print(d); s != "" || errno != api.ErrDate {
			t.Errorf("P3.2: Print(%d) = %q, %d", d, s, errno)
		}
		if w, errno := calendar.Weekday(d); w != 0 || errno != api.ErrDate {
			t.Errorf("P3.3: Weekday(%d) = %d, %d", d, w, errno)
		}
	}
}

// TestFourHundredYearsOn: all is the same but the year.
func TestFourHundredYearsOn(t *testing.T) {
	for d := api.Date(firstDate); d+146097 <= lastDate; d += 11 {
		year, month, day, _ := calendar.Parts(d)
		weekday, _ := calendar.Weekday(d)
		laterYear, laterMonth, laterDay, errno := calendar.Parts(d + 146097)
		laterWeekday, _ := calendar.Weekday(d + 146097)
		is := fmt.Sprint(laterYear, laterMonth, laterDay, laterWeekday, errno)
		if want := fmt.Sprint(year+400, month, day, weekday, api.OK); is != want {
			t.Fatalf("P3.5: 146097 days behind %d: %s, want %s", d, is, want)
		}
	}
}

// TestAsTheLibrary: the first day is a Monday, and the weekdays are those of the library's calendar.
func TestAsTheLibrary(t *testing.T) {
	first := time.Date(1, 1, 1, 0, 0, 0, 0, time.UTC)
	for d := api.Date(firstDate); d <= lastDate; d += 97 {
		then := first.AddDate(0, 0, int(d)-1)
		year, month, day, errno := calendar.Parts(d)
		if year != then.Year() || month != int(then.Month()) || day != then.Day() || errno != api.OK {
			t.Fatalf("P3.1: Parts(%d) = %d, %d, %d, %d, want %v", d, year, month, day, errno, then)
		}
		want := (int(then.Weekday())+6)%7 + 1
		if w, errno := calendar.Weekday(d); w != want || errno != api.OK {
			t.Fatalf("P3.3: Weekday(%d) = %d, %d, want %d", d, w, errno, want)
		}
	}
}
