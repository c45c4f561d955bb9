package syntax

import (
	"strconv"
	"strings"

	"lexprior/api"
	"lexprior/calendar"
	"lexprior/money"
)

// reader goes over tokens once; a method reads what the grammar calls so, or gives up.
type reader struct {
	tokens  []api.Token
	next    int  // the number of the token that is asked about
	end     int  // the text's length
	full    bool // the next token begins a thing too many
	minus   bool // the next term stands behind a -
	statute api.Statute
}

// ahead: the token so many behind the next one; where there is none, one of no kind at the text's end.
func (r *reader) ahead(count int) api.Token {
	if r.next+count < len(r.tokens) {
		return r.tokens[r.next+count]
	}
	return api.Token{At: r.end}
}

// fail: no fault is told of another token than the next one, since one that is taken had none.
func (r *reader) fail(errno api.Errno) {
	panic(fault{errno: errno, at: r.ahead(0).At})
}

// take goes on behind the next token. Whoever takes it has asked all else of it, so that ErrCount is its last fault.
func (r *reader) take() string {
	if r.full {
		r.fail(api.ErrCount)
	}
	text := r.ahead(0).Text
	r.next++
	return text
}

func isMark(t api.Token, text string) bool {
	return t.Kind == api.TokenMark && t.Text == text
}

// hasMark takes the mark, if it is the next token.
func (r *reader) hasMark(text string) bool {
	if !isMark(r.ahead(0), text) {
		return false
	}
	r.take()
	return true
}

// hasWord takes the word of the grammar, if it is the next token.
func (r *reader) hasWord(text string) bool {
	if t := r.ahead(0); t.Kind != api.TokenName || t.Text != text {
		return false
	}
	r.take()
	return true
}

func (r *reader) wantMark(text string) {
	if !r.hasMark(text) {
		r.fail(api.ErrToken)
	}
}

func (r *reader) wantWord(text string) {
	if !r.hasWord(text) {
		r.fail(api.ErrToken)
	}
}

func (r *reader) comma() bool {
	return r.hasMark(",")
}

// add: the list with one thing more, if most lets it.
func add[T any](r *reader, things []T, most int, read func() T) []T {
	// Where a list begins a thing of another list, either may be the one that is full.
	r.full = r.full || len(things) >= most
	return append(things, read())
}

// list: one thing, and another as long as more finds that one follows.
func list[T any](r *reader, most int, read func() T, more func() bool) []T {
	things := add(r, nil, most, read)
	for more() {
		things = add(r, things, most, read)
	}
	return things
}

// inBrackets: the kinds or arguments of a predicate; none, if no bracket is there.
func (r *reader) inBrackets(read func() string) []string {
	if !r.hasMark("(") {
		return nil
	}
	things := list(r, api.MaxArity, read, r.comma)
	r.wantMark(")")
	return things
}

// isWord: whether a name says something in the grammar.
func isWord(name string) bool {
	switch name {
	case "statute", "kind", "member", "pred", "number", "amount", "class", "source", "rank":
		return true
	case "rule", "of", "at", "until", "exception", "to", "total", "cap":
		return true
	}
	return false
}

func (r *reader) name() string {
	if t := r.ahead(0); t.Kind != api.TokenName || isWord(t.Text) {
		r.fail(api.ErrToken)
	}
	return r.take()
}

func (r *reader) argument() string {
	if r.ahead(0).Kind == api.TokenVar {
		return r.take()
	}
	return r.name()
}

func (r *reader) quote() string {
	if r.ahead(0).Kind != api.TokenQuote {
		r.fail(api.ErrToken)
	}
	return r.take()
}

// date: a token that looks like a date, but is no day, is none that the grammar can go on with: no statute could hold it.
func (r *reader) date() api.Date {
	t := r.ahead(0)
	day, errno := calendar.Parse(t.Text)
	if t.Kind != api.TokenDate || errno != api.OK {
		r.fail(api.ErrToken)
	}
	r.take()
	return day
}

func (r *reader) integer(least, most int) int {
	t := r.ahead(0)
	if t.Kind != api.TokenNumber || strings.Contains(t.Text, ".") {
		r.fail(api.ErrToken)
	}
	// Of digits alone, the one thing that Atoi can't read is a number too great for it.
	n, err := strconv.Atoi(t.Text)
	if err != nil || n < least || n > most {
		r.fail(api.ErrRange)
	}
	r.take()
	return n
}

func (r *reader) money() api.Money {
	sign := ""
	if r.hasMark("-") {
		sign = "-"
	}
	t := r.ahead(0)
	if t.Kind != api.TokenNumber {
		r.fail(api.ErrToken)
	}
	m, errno := money.Parse(sign + t.Text)
	if errno != api.OK {
		r.fail(errno)
	}
	r.take()
	return m
}
