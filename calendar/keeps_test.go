package calendar_test

import (
	"fmt"
	"sync"
	"testing"
	"unsafe"

	"lexprior/api"
	"lexprior/calendar"
)

// TestTextsAreNewMemory: no two texts, be they of the same day, share their bytes with each other or with what the program keeps.
func TestTextsAreNewMemory(t *testing.T) {
	for _, d := range []api.Date{firstDate, 730179, lastDate} {
		first, _ := calendar.Print(d)
		second, _ := calendar.Print(d)
		if first != second {
			t.Errorf("P3: Print(%d) is %s, then %s", d, first, second)
		}
		if unsafe.StringData(first) == unsafe.StringData(second) {
			t.Errorf("P3.7: two answers of Print(%d) share memory", d)
		}
	}
}

// TestParseKeepsNothing: the bytes of a text may become others behind the call, and neither the answer nor a later one changes.
func TestParseKeepsNothing(t *testing.T) {
	b := []byte("2000-02-29")
	d, errno := calendar.Parse(unsafe.String(&b[0], len(b)))
	if string(b) != "2000-02-29" {
		t.Errorf("P3.7: Parse changed its text: %s", b)
	}
	copy(b, "1999-12-31")
	if d != 730179 || errno != api.OK {
		t.Errorf("P3.7: Parse(2000-02-29) = %d, %d", d, errno)
	}
	if later, errno := calendar.Parse(unsafe.String(&b[0], len(b))); later != 730119 || errno != api.OK {
		t.Errorf("P3.7: Parse(1999-12-31) = %d, %d", later, errno)
	}
}

// allAnswers: of all calls, told in one text.
func allAnswers(a, b, c int) string {
	d, of := calendar.Of(a, b, c)
	year, month, day, parts := calendar.Parts(api.Date(a))
	text, print := calendar.Print(api.Date(a))
	read, parse := calendar.Parse(text)
	weekday, week := calendar.Weekday(api.Date(a))
	length, days := calendar.Days(a, b)
	moved, months := calendar.Months(api.Date(a), b)
	years, age := calendar.Age(api.Date(a), api.Date(b))
	return fmt.Sprint(d, of, year, month, day, parts, text, print, read, parse, weekday, week, length, days, moved, months, years, age)
}

// TestAnyArguments: nothing panics, and the same arguments have the same answers, alone and beside other calls.
func TestAnyArguments(t *testing.T) {
	numbers := append(edgeNumbers(), 0, 1, 2, 12, 13, 28, 29, 30, 31, 32, 366, 2000, 9999, 10000, 730179, lastDate-1, lastDate, lastDate+1)
	var want []string
	eachThree(numbers, func(a, b, c int) { want = append(want, allAnswers(a, b, c)) })
	var workers sync.WaitGroup
	for range 4 {
		workers.Go(func() {
			i := 0
			eachThree(numbers, func(a, b, c int) {
				if got := allAnswers(a, b, c); got != want[i] {
					t.Errorf("P3: of %d, %d, %d another answer: %s, then %s", a, b, c, want[i], got)
				}
				i++
			})
		})
	}
	workers.Wait()
}

func eachThree(l []int, do func(a, b, c int)) {
	for _, a := range l {
		for _, b := range l {
			for _, c := range l {
				do(a, b, c)
			}
		}
	}
}
