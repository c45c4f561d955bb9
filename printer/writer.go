package printer

import (
	"strconv"
	"strings"

	"lexprior/api"
	"lexprior/calendar"
	"lexprior/money"
)

// writer is what parts are handed to. Of a form that is too long it keeps no more, but takes all parts, since one that can't be told goes ahead of the length.
type writer struct {
	form strings.Builder
	long bool
}

// part says a piece of a form to a writer, or gives up.
type part func(w *writer)

func (w *writer) say(text string) {
	w.long = w.long || len(text) > api.MaxText-w.form.Len()
	if !w.long {
		w.form.WriteString(text)
	}
}

func (w *writer) take(parts ...part) {
	for _, tell := range parts {
		tell(w)
	}
}

func giveUp() {
	panic(api.ErrForm)
}

// written: a part's text.
func written(whole part) (text string, errno api.Errno) {
	defer func() {
		if caught := recover(); caught != nil {
			text, errno = "", errnoOf(caught)
		}
	}()
	w := &writer{}
	w.take(whole)
	if w.long {
		return "", api.ErrLong
	}
	return w.form.String(), api.OK
}

// errnoOf: what no part gave up with is a mistake of the program, and is not hidden.
func errnoOf(caught any) api.Errno {
	errno, gaveUp := caught.(api.Errno)
	if !gaveUp {
		panic(caught)
	}
	return errno
}

func texts(all ...string) part {
	return func(w *writer) {
		for _, text := range all {
			w.say(text)
		}
	}
}

func row(parts ...part) part {
	return func(w *writer) { w.take(parts...) }
}

// only: the part, if it is there.
func only(there bool, tell part) part {
	return func(w *writer) {
		if there {
			w.take(tell)
		}
	}
}

// listed: things with commas between.
func listed[T any](things []T, tell func(T) part) part {
	return func(w *writer) {
		for i, thing := range things {
			w.take(only(i > 0, texts(", ")), tell(thing))
		}
	}
}

// lines: things that are items, one a line.
func lines[T any](things []T, tell func(T) part) part {
	return func(w *writer) {
		for _, thing := range things {
			w.take(line(tell(thing)))
		}
	}
}

func line(item part) part {
	return row(item, texts(".\n"))
}

func name(text string) part {
	return texts(text)
}

func names(all []string) part {
	return listed(all, name)
}

// inBrackets: the kinds or arguments of a predicate.
func inBrackets(all []string) part {
	return only(len(all) > 0, row(texts("("), names(all), texts(")")))
}

// oneOf: what is said for a number that counts from 1 on.
func oneOf[N ~int](number N, all ...string) part {
	return func(w *writer) {
		if number < 1 || int(number) > len(all) {
			giveUp()
		}
		w.say(all[number-1])
	}
}

func integer(number int64) part {
	return func(w *writer) {
		if number < 0 {
			giveUp()
		}
		w.say(strconv.FormatInt(number, 10))
	}
}

func amount(m api.Money) part {
	return func(w *writer) {
		text, errno := money.Print(m)
		if errno != api.OK {
			giveUp()
		}
		w.say(text)
	}
}

func day(d api.Date) part {
	return func(w *writer) {
		text, errno := calendar.Print(d)
		if errno != api.OK {
			giveUp()
		}
		w.say(text)
	}
}
