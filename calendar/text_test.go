package calendar_test

import (
	"fmt"
	"regexp"
	"strconv"
	"strings"
	"testing"

	"lexprior/api"
	"lexprior/calendar"
)

var written = regexp.MustCompile(`\A([0-9]{4})-([0-9]{2})-([0-9]{2})\z`)

// readAsWritten: what Parse must answer, by the words of the promise.
func readAsWritten(s string) (api.Date, api.Errno) {
	found := written.FindStringSubmatch(s)
	if found == nil {
		return 0, api.ErrDate
	}
	year, _ := strconv.Atoi(found[1])
	month, _ := strconv.Atoi(found[2])
	day, _ := strconv.Atoi(found[3])
	if year < 1 || month < 1 || month > 12 || day < 1 || day > lengthOf(year, month) {
		return 0, api.ErrDate
	}
	return dateOf(year, month, day), api.OK
}

func checkParse(t *testing.T, s string) {
	t.Helper()
	want, wantErrno := readAsWritten(s)
	if d, errno := calendar.Parse(s); d != want || errno != wantErrno {
		t.Errorf("P3.2: Parse(%q) = %d, %d, want %d, %d", s, d, errno, want, wantErrno)
	}
}

func TestEachText(t *testing.T) {
	for year := 1; year <= 9999; year += 3 {
		for month := 1; month <= 12; month++ {
			for day := 1; day <= lengthOf(year, month); day++ {
				d, _ := calendar.Of(year, month, day)
				want := fmt.Sprintf("%04d-%02d-%02d", year, month, day)
				s, errno := calendar.Print(d)
				if s != want || errno != api.OK {
					t.Fatalf("P3.2: Print(%d) = %q, %d, want %s", d, s, errno, want)
				}
				if back, errno := calendar.Parse(s); back != d || errno != api.OK {
					t.Fatalf("P3.4: Parse of Print(%d) = %d, %d", d, back, errno)
				}
			}
		}
	}
}

func TestFirstAndLastText(t *testing.T) {
	for s, want := range map[string]api.Date{"0001-01-01": firstDate, "0001-01-02": 2, "9999-12-30": lastDate - 1, "9999-12-31": lastDate} {
		if d, errno := calendar.Parse(s); d != want || errno != api.OK {
			t.Errorf("P3.2: Parse(%s) = %d, %d, want %d", s, d, errno, want)
		}
		if text, errno := calendar.Print(want); text != s || errno != api.OK {
			t.Errorf("P3.2: Print(%d) = %q, %d, want %s", want, text, errno, s)
		}
	}
}

func TestTextsOfNoDay(t *testing.T) {
	for _, s := range []string{
		"", "-", "--", "0", "2001", "2001-02", "2001-02-", "2001-02-3", "2001-2-03", "2001-2-3", "201-02-03", "02001-02-03", "2001-02-030", "2001-002-03",
		"2001-02-03 ", " 2001-02-03", "2001-02-03\n", "2001-02-03\x00", "\x002001-02-03", "2001 02 03", "2001/02/03", "2001.02.03", "20010203", "2001-0203", "200102-03", "2001--02-03", "2001-02--3", "----------",
		"+001-02-03", "-001-02-03", "-2001-02-03", "+2001-02-03", "2001-+2-03", "2001--2-03", "2001-02-+3", "2001-02--3", "2001- 2-03", "2001-02- 3", "2001-02-0x", "0x01-02-03", "2_01-02-03",
		"0000-01-01", "0000-12-31", "0000-00-00", "2001-00-01", "2001-13-01", "2001-99-01", "2001-01-00", "2001-01-32", "2001-01-99", "2001-04-31", "2001-02-29", "2001-02-30", "1900-02-29", "2100-02-29", "2000-02-30", "9999-12-32", "9999-13-01", "10000-01-01",
		"03-02-2001", "02-03-2001", "2001-Feb-03", "2001-02-03T00:00:00Z",
		"２００１-02-03", "200\u0661-02-03", "2001\u201102\u201103", "2001\u201302\u201303", "\ufeff2001-02-03", "200\xff-02-03", "2001\xad02-03", "2001-02-\xb03",
		strings.Repeat("2001-02-03", 2), strings.Repeat("0", 10), strings.Repeat("9", 10), strings.Repeat("1", 1<<16),
	} {
		if d, errno := calendar.Parse(s); d != 0 || errno != api.ErrDate {
			t.Errorf("P3.2: Parse(%q) = %d, %d", s, d, errno)
		}
	}
}

// TestTextsNearlyOfTheForm: each place with each byte, each place left out, and each byte put in at each place.
func TestTextsNearlyOfTheForm(t *testing.T) {
	for _, s := range []string{"2001-02-28", "2000-02-29", "0001-01-01", "9999-12-31", "1900-11-30"} {
		for place := 0; place <= len(s); place++ {
			if place < len(s) {
				checkParse(t, s[:place])
				checkParse(t, s[place:])
				checkParse(t, s[:place]+s[place+1:])
			}
			for c := range 256 {
				one := string([]byte{byte(c)})
				checkParse(t, s[:place]+one+s[place:])
				if place < len(s) {
					checkParse(t, s[:place]+one+s[place+1:])
				}
			}
		}
	}
}

// TestEachTextOfDigits: in some years each two digits as month and day.
func TestEachTextOfDigits(t *testing.T) {
	for _, year := range append(yearsToLook(), 0) {
		for month := range 100 {
			for day := range 100 {
				checkParse(t, fmt.Sprintf("%04d-%02d-%02d", year, month, day))
			}
		}
	}
}

func FuzzParse(f *testing.F) {
	for _, s := range []string{"", "2000-02-29", "1900-02-29", "0000-01-01", "9999-12-31", "2001-2-03", "2001/02/03", "-001-01-01"} {
		f.Add(s)
	}
	f.Fuzz(func(t *testing.T, s string) {
		checkParse(t, s)
		if d, errno := calendar.Parse(s); errno == api.OK {
			if back, errno := calendar.Print(d); back != s || errno != api.OK {
				t.Errorf("P3.4: Print of Parse(%q) is %q, %d", s, back, errno)
			}
		}
	})
}
