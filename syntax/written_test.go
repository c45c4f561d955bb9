package syntax_test

import (
	"regexp"
	"slices"
	"strconv"
	"strings"
	"testing"

	"lexprior/api"
	"lexprior/calendar"
	"lexprior/lexer"
	"lexprior/money"
	"lexprior/syntax"
)

// grammar is the chapter's, with what its sentences say worked in: a @ stands ahead of what is counted against a limit, a ^ where that count begins anew.
const grammar = `
text      = [ "statute" quote "." ] { item } end
item      = "kind" @kind name "."
          | "member" @member name { "," @member name } ":" name "."
          | "pred" @pred name kinds "."
          | "number" @pred name kinds "."
          | "amount" @pred name kinds ":" ^value @value money { "," @value money } "."
          | "class" @class ^part @part name "," @part name { "," @part name } "."
          | "source" @source name "rank" rank "."
          | "rule" @rule name "of" name "at" date [ "until" date ] ":" ^premise [ @premise premise { "," @premise premise } ] arrow literal "."
          | "exception" @exception name "to" name "."
          | "total" @total name "(" name ")" ":" ^part @part name { "," @part name } [ "cap" money ] "."
kinds     = [ "(" ^argument @argument name { "," @argument name } ")" ]
arrow     = "->" | "=>" | "~>"
premise   = literal | guard | unlike "!=" arg
literal   = [ "-" ] name args [ "=" money ]
args      = [ "(" ^argument @argument arg { "," @argument arg } ")" ]
arg       = name | var
guard     = "{" sum op sum "}"
sum       = ^term @term term { ( "+" | "-" ) @term term }
term      = uncounted | "-" below | [ integer "*" ] name args
op        = "<" | "<=" | "==" | "<>" | ">=" | ">"
money     = amount | "-" below`

// limits: of what the grammar counts.
var limits = map[string]int{
	"kind": 16, "member": 64, "pred": 256, "value": 64, "class": 64, "part": 16, "source": 64, "rule": 512,
	"premise": 16, "exception": 512, "total": 64, "argument": 4, "term": 8,
}

var words = strings.Fields("statute kind member pred number amount class source rank rule of at until exception to total cap")

// state is how far a walk through the grammar is: the token that comes next, what was counted, and whether the next token begins one too many.
type state struct {
	next   int
	counts [13]int
	over   bool
}

// walk goes from a state through a part of the grammar, by every way there is, and then on by rest.
type walk func(j *judge, from state, rest func(state))

// judge finds the first token with which no way through the grammar goes on.
type judge struct {
	tokens []api.Token
	done   bool
	best   int
	errno  api.Errno
}

func (j *judge) token(number int) api.Token {
	if number < len(j.tokens) {
		return j.tokens[number]
	}
	return api.Token{}
}

// stop: a way that ends at a token; one that wants it has more to say than one that does not.
func (j *judge) stop(at int, errno api.Errno) {
	if at > j.best || at == j.best && (j.errno == api.OK || j.errno == api.ErrToken) {
		j.best, j.errno = at, errno
	}
}

// wanted is what a word of the grammar that is no rule of it asks of a token: whether it is one, and its fault.
type wanted func(j *judge, at int) (bool, api.Errno)

func step(want wanted) walk {
	return func(j *judge, from state, rest func(state)) {
		is, errno := want(j, from.next)
		switch {
		case !is:
			j.stop(from.next, api.ErrToken)
		case errno != api.OK:
			j.stop(from.next, errno)
		case from.over:
			j.stop(from.next, api.ErrCount)
		default:
			from.next++
			rest(from)
		}
	}
}

func isText(text string) wanted {
	return func(j *judge, at int) (bool, api.Errno) {
		t := j.token(at)
		return t.Text == text && (t.Kind == api.TokenMark || t.Kind == api.TokenName), api.OK
	}
}

func isKind(kind api.TokenKind) wanted {
	return func(j *judge, at int) (bool, api.Errno) { return j.token(at).Kind == kind, api.OK }
}

func isName(j *judge, at int) (bool, api.Errno) {
	t := j.token(at)
	return t.Kind == api.TokenName && !slices.Contains(words, t.Text), api.OK
}

func (j *judge) markAt(at int, text string) bool {
	t := j.token(at)
	return t.Kind == api.TokenMark && t.Text == text
}

func isUnlike(j *judge, at int) (bool, api.Errno) {
	named, _ := isName(j, at)
	return (named || j.token(at).Kind == api.TokenVar) && j.markAt(at+1, "!="), api.OK
}

func isEnd(j *judge, at int) (bool, api.Errno) {
	atEnd := at == len(j.tokens)
	j.done = j.done || atEnd
	return atEnd, api.OK
}

func isDate(j *judge, at int) (bool, api.Errno) {
	_, errno := calendar.Parse(j.token(at).Text)
	return j.token(at).Kind == api.TokenDate && errno == api.OK, api.OK
}

func isAmount(sign string) wanted {
	return func(j *judge, at int) (bool, api.Errno) {
		_, errno := money.Parse(sign + j.token(at).Text)
		return j.token(at).Kind == api.TokenNumber, errno
	}
}

func isUncounted(j *judge, at int) (bool, api.Errno) {
	is, errno := isAmount("")(j, at)
	return is && !j.markAt(at+1, "*"), errno
}

var thousand = regexp.MustCompile(`\A0*(1000|[0-9]{0,3})\z`)

func isRank(j *judge, at int) (bool, api.Errno) {
	t := j.token(at)
	if t.Kind != api.TokenNumber || strings.Contains(t.Text, ".") {
		return false, api.OK
	}
	if !thousand.MatchString(t.Text) {
		return true, api.ErrRange
	}
	return true, api.OK
}

func isInteger(j *judge, at int) (bool, api.Errno) {
	is, errno := isRank(j, at)
	if strings.Trim(j.token(at).Text, "0") == "" {
		errno = api.ErrRange
	}
	return is && j.markAt(at+1, "*"), errno
}

func allWanted() map[string]wanted {
	return map[string]wanted{
		"name": isName, "var": isKind(api.TokenVar), "quote": isKind(api.TokenQuote), "date": isDate, "end": isEnd,
		"rank": isRank, "integer": isInteger, "uncounted": isUncounted, "amount": isAmount(""), "below": isAmount("-"), "unlike": isUnlike,
	}
}

// grammarReader makes walks of the grammar's text.
type grammarReader struct {
	pieces []string
	rules  map[string]walk
	things map[string]wanted
	counts []string
}

func (g *grammarReader) piece() string {
	if len(g.pieces) == 0 {
		return ""
	}
	return g.pieces[0]
}

func (g *grammarReader) pass() string {
	piece := g.pieces[0]
	g.pieces = g.pieces[1:]
	return piece
}

// either: ways with | between.
func (g *grammarReader) either() walk {
	ways := []walk{g.row()}
	for g.piece() == "|" {
		g.pass()
		ways = append(ways, g.row())
	}
	return func(j *judge, from state, rest func(state)) {
		for _, way := range ways {
			way(j, from, rest)
		}
	}
}

// row: things one behind the other.
func (g *grammarReader) row() walk {
	var things []walk
	for !slices.Contains([]string{"", "|", "]", "}", ")"}, g.piece()) {
		things = append(things, g.thing())
	}
	return func(j *judge, from state, rest func(state)) {
		var goOn func(number int) func(state)
		goOn = func(number int) func(state) {
			if number == len(things) {
				return rest
			}
			return func(at state) { things[number](j, at, goOn(number+1)) }
		}
		goOn(0)(from)
	}
}

func (g *grammarReader) thing() walk {
	piece := g.pass()
	switch piece[0] {
	case '[', '{', '(':
		inner := g.either()
		g.pass()
		return enclosed(piece, inner)
	case '"':
		return step(isText(strings.Trim(piece, `"`)))
	case '@', '^':
		return g.count(piece[0], piece[1:])
	}
	if want, ok := g.things[piece]; ok {
		return step(want)
	}
	return func(j *judge, from state, rest func(state)) { g.rules[piece](j, from, rest) }
}

func enclosed(bracket string, inner walk) walk {
	switch bracket {
	case "[":
		return func(j *judge, from state, rest func(state)) {
			inner(j, from, rest)
			rest(from)
		}
	case "{":
		var again walk
		again = func(j *judge, from state, rest func(state)) {
			inner(j, from, func(to state) { again(j, to, rest) })
			rest(from)
		}
		return again
	}
	return inner
}

func (g *grammarReader) count(sign byte, what string) walk {
	if !slices.Contains(g.counts, what) {
		g.counts = append(g.counts, what)
	}
	number := slices.Index(g.counts, what)
	return func(j *judge, from state, rest func(state)) {
		if sign == '^' {
			from.counts[number] = 0
		} else {
			from.counts[number]++
			from.over = from.over || from.counts[number] > limits[what]
		}
		rest(from)
	}
}

func readGrammar() walk {
	g := &grammarReader{rules: map[string]walk{}, things: allWanted()}
	for _, rule := range regexp.MustCompile(`(?m)^\w+ += .*\n?(?: +\|.*\n?)*`).FindAllString(grammar, -1) {
		name, ways, _ := strings.Cut(rule, "=")
		g.pieces = strings.Fields(ways)
		g.rules[strings.TrimSpace(name)] = g.either()
	}
	return g.rules["text"]
}

// verdict: what the chapter says of a text: an error and its place, or OK and its length.
func verdict(text walk, s string) (api.Errno, int) {
	tokens, errno, at := lexer.Tokens(s)
	if errno != api.OK {
		return errno, at
	}
	j := &judge{tokens: tokens}
	text(j, state{}, func(state) {})
	switch {
	case j.done:
		return api.OK, len(s)
	case j.best == len(tokens):
		return j.errno, len(s)
	}
	return j.errno, tokens[j.best].At
}

// checkVerdict: Parse of a text is as the grammar's walks say; beside an error the statute is empty (P5.2).
func checkVerdict(t *testing.T, text walk, s string) api.Errno {
	t.Helper()
	errno, at := verdict(text, s)
	statute, gotErrno, gotAt := syntax.Parse(s)
	if gotErrno != errno || gotAt != at {
		t.Fatalf("P5.1: Parse(%.3000q): %d, %d, want %d, %d", s, gotErrno, gotAt, errno, at)
	}
	if errno != api.OK && told(statute) != told(api.Statute{}) {
		t.Fatalf("P5.2: Parse(%.3000q): beside the error %d there is a statute: %s", s, errno, told(statute))
	}
	return errno
}

func TestTheGrammarHasAllWords(t *testing.T) {
	for _, word := range words {
		if !strings.Contains(grammar, strconv.Quote(word)) {
			t.Errorf("the grammar does not have the word %s", word)
		}
	}
}
