package checker_test

import (
	"encoding/binary"
	"hash/crc32"

	"lexprior/api"
)

// kind is what a part of the bytes is.
type kind int

const (
	begin kind = iota
	countOfSteps
	tag
	lit
	how
	ruleOfStep
	countOfChoices
	place
	ruleOfChoice
)

// part is one number of the bytes, as it is told.
type part struct {
	kind kind
	n    uint64
}

// isByte: a part that is one byte, whatever it says.
func (p part) isByte() bool {
	return p.kind == begin || p.kind == tag || p.kind == how
}

func (p part) bytes() []byte {
	if p.isByte() {
		return []byte{byte(p.n)}
	}
	return binary.AppendUvarint(nil, p.n)
}

// bounds: the least and the most that may be told.
func (k kind) bounds() (uint64, uint64) {
	switch k {
	case countOfSteps:
		return 0, 65536
	case tag:
		return 1, 4
	case lit:
		return 0, 4095
	case how:
		return 1, 5
	case place:
		return 0, 16
	}
	return 0, 4096
}

// parts: the form, number by number, without the sum.
func parts(l []api.Step) []part {
	all := []part{{begin, 0x6C}, {begin, 0x78}, {begin, 0x64}, {begin, 1}, {countOfSteps, uint64(len(l))}}
	for _, s := range l {
		all = append(all, part{tag, uint64(s.Tag)}, part{lit, uint64(s.Lit)}, part{how, uint64(s.How)}, part{ruleOfStep, uint64(s.Rule + 1)}, part{countOfChoices, uint64(len(s.Choices))})
		for _, c := range s.Choices {
			all = append(all, part{place, uint64(c.Place + 1)}, part{ruleOfChoice, uint64(c.Rule + 1)})
		}
	}
	return all
}

// laid: the bytes of parts, and the place at which each begins.
func laid(all []part) ([]byte, []int) {
	var b []byte
	var places []int
	for _, p := range all {
		places = append(places, len(b))
		b = append(b, p.bytes()...)
	}
	return b, places
}

// summed: bytes, and their sum behind; new memory.
func summed(b []byte) []byte {
	sum := crc32.Checksum(b, crc32.MakeTable(crc32.Castagnoli))
	return binary.LittleEndian.AppendUint32(append([]byte(nil), b...), sum)
}

// modelBytes: those of steps that may be.
func modelBytes(l []api.Step) []byte {
	b, _ := laid(parts(l))
	return summed(b)
}

// taker takes part by part from the left; behind a fault it takes nothing more.
type taker struct {
	b     []byte
	at    int
	errno api.Errno
	place int
}

func (x *taker) fail(errno api.Errno, at int) int {
	x.errno, x.place = errno, at
	return 0
}

func (x *taker) take(k kind) int {
	if x.errno != api.OK {
		return 0
	}
	rest := x.b[x.at:]
	if len(rest) == 0 {
		return x.fail(api.ErrShort, len(x.b))
	}
	n, size := uint64(rest[0]), 1
	if !(part{kind: k}).isByte() {
		n, size = binary.Uvarint(rest)
	}
	least, most := k.bounds()
	switch {
	case size == 0 && len(rest) < 10:
		return x.fail(api.ErrShort, len(x.b))
	case size <= 0 || size > 1 && rest[size-1] == 0:
		return x.fail(api.ErrNumber, x.at)
	case n < least || n > most:
		return x.fail(api.ErrWire, x.at)
	}
	x.at += size
	return int(n)
}

func (x *taker) begin() {
	for _, c := range []byte{0x6C, 0x78, 0x64, 1} {
		switch {
		case x.errno != api.OK:
		case x.at == len(x.b):
			x.fail(api.ErrShort, x.at)
		case x.b[x.at] != c:
			x.fail(api.ErrWire, x.at)
		default:
			x.at++
		}
	}
}

func (x *taker) step() api.Step {
	s := api.Step{Tag: api.Tag(x.take(tag)), Lit: x.take(lit), How: api.How(x.take(how)), Rule: x.take(ruleOfStep) - 1}
	for n := x.take(countOfChoices); n > 0 && x.errno == api.OK; n-- {
		s.Choices = append(s.Choices, api.Choice{Place: x.take(place) - 1, Rule: x.take(ruleOfChoice) - 1})
	}
	return s
}

func (x *taker) end() {
	rest := x.b[x.at:]
	switch {
	case x.errno != api.OK:
	case len(rest) < 4:
		x.fail(api.ErrShort, len(x.b))
	case string(summed(x.b[:x.at])) != string(x.b[:x.at+4]):
		x.fail(api.ErrSum, x.at)
	case len(rest) > 4:
		x.fail(api.ErrTail, x.at+4)
	}
}

// modelDecode: what the chapter says of bytes.
func modelDecode(b []byte) ([]api.Step, api.Errno, int) {
	x := &taker{b: b}
	x.begin()
	var l []api.Step
	for n := x.take(countOfSteps); n > 0 && x.errno == api.OK; n-- {
		l = append(l, x.step())
	}
	x.end()
	if x.errno != api.OK {
		return nil, x.errno, x.place
	}
	return l, api.OK, len(b)
}
