package lexer

import "lexprior/api"

// scanner goes over a text once, character by character.
type scanner struct {
	text    string
	state   func(at int, c rune) // what the next character means
	from    int                  // where the token or remark begins that the state is in
	tokens  []api.Token
	remarks []string
	errno   api.Errno
	place   int
}

func scan(s string) *scanner {
	if len(s) > api.MaxText {
		return &scanner{errno: api.ErrLong}
	}
	// The byte 10 behind the text ends whatever is open there; and the text is a copy by it, so that no answer shares memory with s.
	z := &scanner{text: s + "\n"}
	z.state = z.between
	for at, c := range z.text {
		z.state(at, c)
		if z.errno != api.OK {
			break
		}
	}
	return z
}

func (z *scanner) between(at int, c rune) {
	z.from = at
	switch classOf(c) {
	case lineEnd, blank:
	case small:
		z.state = z.inName
	case capital:
		z.state = z.inVar
	case digit:
		z.state = z.inNumber
		if beginsDate(z.text[at:]) {
			z.state = z.inDate
		}
	case quotation:
		z.state = z.inQuote
	case sharp:
		z.state = z.inRemark
	case point, sign:
		z.state = z.inMark
	default:
		z.fail(api.ErrByte, at)
	}
}

func (z *scanner) inName(at int, c rune) {
	switch classOf(c) {
	case small, digit, underscore:
	default:
		z.endWord(api.TokenName, at, c)
	}
}

func (z *scanner) inVar(at int, c rune) {
	switch classOf(c) {
	case small, capital, digit, underscore:
	default:
		z.endWord(api.TokenVar, at, c)
	}
}

func (z *scanner) inNumber(at int, c rune) {
	switch {
	case classOf(c) == digit:
	case classOf(c) == point && classOf(rune(z.text[at+1])) == digit:
		z.state = z.inFraction
	default:
		z.endApart(api.TokenNumber, at, c)
	}
}

func (z *scanner) inFraction(at int, c rune) {
	if classOf(c) != digit {
		z.endApart(api.TokenNumber, at, c)
	}
}

func (z *scanner) inDate(at int, c rune) {
	if at == z.from+len(dateForm) {
		z.endApart(api.TokenDate, at, c)
	}
}

func (z *scanner) inQuote(at int, c rune) {
	switch classOf(c) {
	case quotation:
		z.add(api.TokenQuote, z.text[z.from+1:at])
	case lineEnd:
		z.fail(api.ErrQuote, z.from)
	}
}

func (z *scanner) inRemark(at int, c rune) {
	if classOf(c) == lineEnd {
		z.remarks = append(z.remarks, z.text[z.from+1:at])
		z.state = z.between
	}
}

// inMark: the second character is part of the mark, or tells that there is no longer one.
func (z *scanner) inMark(at int, c rune) {
	one, two := z.text[z.from:at], z.text[z.from:at+1]
	switch {
	case isMark(two):
		z.add(api.TokenMark, two)
	case isMark(one):
		z.add(api.TokenMark, one)
		z.between(at, c)
	default:
		z.fail(api.ErrByte, z.from)
	}
}

func (z *scanner) endWord(kind api.TokenKind, at int, c rune) {
	if at-z.from > api.MaxName {
		z.fail(api.ErrLong, z.from)
		return
	}
	z.endApart(kind, at, c)
}

// endApart: a token that ends ahead of c, which may not go on like a word.
func (z *scanner) endApart(kind api.TokenKind, at int, c rune) {
	switch classOf(c) {
	case small, capital, digit, underscore:
		z.fail(api.ErrByte, at)
	default:
		z.add(kind, z.text[z.from:at])
		z.between(at, c)
	}
}

func (z *scanner) add(kind api.TokenKind, text string) {
	z.tokens = append(z.tokens, api.Token{Kind: kind, Text: text, At: z.from})
	z.state = z.between
}

func (z *scanner) fail(errno api.Errno, place int) {
	z.errno, z.place = errno, place
}
