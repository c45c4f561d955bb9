package calendar

import "lexprior/api"

// form is the shape of each text: a 0 where a digit stands, else what stands there.
const form = "0000-00-00"

// Parse: a text's day.
func Parse(s string) (api.Date, api.Errno) {
	digits, formed := readDigits(s)
	if !formed {
		return 0, api.ErrDate
	}
	return Of(digits/10000, digits/100%100, digits%100)
}

// Print: a day's text.
func Print(d api.Date) (string, api.Errno) {
	if !isDay(d) {
		return "", api.ErrDate
	}
	return partsOf(d).text(), api.OK
}

// readDigits: the digits of a text as one number; false if it has another form.
func readDigits(s string) (int, bool) {
	if len(s) != len(form) {
		return 0, false
	}
	digits := 0
	for place := range len(form) {
		if form[place] != '0' {
			if s[place] != form[place] {
				return 0, false
			}
			continue
		}
		if s[place] < '0' || s[place] > '9' {
			return 0, false
		}
		digits = digits*10 + int(s[place]-'0')
	}
	return digits, true
}

func (p parts) text() string {
	digits := (p.year*100+p.month)*100 + p.day
	text := []byte(form)
	for fromEnd := range len(form) {
		place := len(form) - 1 - fromEnd
		if form[place] != '0' {
			continue
		}
		text[place] += byte(digits % 10)
		digits /= 10
	}
	return string(text)
}
