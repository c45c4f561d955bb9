package calendar_test

import (
	"testing"

	"lexprior/api"
	"lexprior/calendar"
)

// TestExamples: those of the chapter.
func TestExamples(t *testing.T) {
	if d, errno := calendar.Of(2000, 2, 29); d != 730179 || errno != api.OK {
		t.Errorf("example 1: Of(2000, 2, 29) = %d, %d", d, errno)
	}
	if w, errno := calendar.Weekday(730179); w != 2 || errno != api.OK {
		t.Errorf("example 1: Weekday(730179) = %d, %d", w, errno)
	}
	if d, errno := calendar.Of(1900, 2, 29); d != 0 || errno != api.ErrDate {
		t.Errorf("example 1: Of(1900, 2, 29) = %d, %d", d, errno)
	}
	if s, errno := calendar.Print(1); s != "0001-01-01" || errno != api.OK {
		t.Errorf("example 1: Print(1) = %s, %d", s, errno)
	}
	from := mustParse(t, "2021-01-31")
	for n, want := range map[int]string{1: "2021-02-28", -11: "2020-02-29"} {
		if d, errno := calendar.Months(from, n); d != mustParse(t, want) || errno != api.OK {
			t.Errorf("example 2: Months(2021-01-31, %d) = %d, %d, want %s", n, d, errno, want)
		}
	}
	born := mustParse(t, "2000-02-29")
	for at, want := range map[string]int{"2001-02-28": 0, "2001-03-01": 1, "2004-02-28": 3, "2004-02-29": 4} {
		if age, errno := calendar.Age(born, mustParse(t, at)); age != want || errno != api.OK {
			t.Errorf("example 2: Age(2000-02-29, %s) = %d, %d, want %d", at, age, errno, want)
		}
	}
}
