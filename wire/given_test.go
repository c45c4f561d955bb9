package wire_test

import (
	"bytes"
	"encoding/hex"
	"fmt"
	"math"
	"slices"
	"strconv"
	"strings"
	"testing"

	"lexprior/api"
	"lexprior/wire"
)

func number(text string) int {
	n, err := strconv.Atoi(text)
	if err != nil {
		panic(err)
	}
	return n
}

// step: as a text says it: the tag, the literal, how, and the rule, if it is not -1; then each choice as the numbers of its place and its rule.
func step(text string) api.Step {
	parts := strings.Split(text, "/")
	head := strings.Fields(parts[0])
	s := api.Step{
		Tag:  map[string]api.Tag{"+D": 1, "-D": 2, "+d": 3, "-d": 4}[head[0]],
		Lit:  number(head[1]),
		How:  map[string]api.How{"fact": 1, "rule": 2, "none": 3, "strict": 4, "beaten": 5}[head[2]],
		Rule: -1,
	}
	if len(head) > 3 {
		s.Rule = number(head[3])
	}
	for _, part := range parts[1:] {
		c := strings.Fields(part)
		s.Choices = append(s.Choices, api.Choice{Place: number(c[0]), Rule: number(c[1])})
	}
	return s
}

// steps: with ; between them.
func steps(text string) []api.Step {
	var l []api.Step
	for _, part := range strings.Split(text, ";") {
		if strings.TrimSpace(part) != "" {
			l = append(l, step(part))
		}
	}
	return l
}

// house is a list of steps with all that a list can have; nothing of it follows.
func house() []api.Step {
	return steps("+D 0 fact; -D 127 none / 0 -1 / 15 4095; +d 128 rule 126 / -1 127; -d 4095 beaten 4095 / -1 -1; -d 300 strict 0")
}

// houseBytes: those of house ahead of their sum, laid out by hand.
func houseBytes() []byte {
	return unhex(`6C786401 05
		01 00   01 00   00
		02 7F   03 00   02  01 00  10 8020
		03 8001 02 7F   01  00 8001
		04 FF1F 05 8020 01  00 00
		04 AC02 04 01   00`)
}

// unhex: bytes as a text says them.
func unhex(text string) []byte {
	b, err := hex.DecodeString(strings.Join(strings.Fields(text), ""))
	if err != nil {
		panic(err)
	}
	return b
}

// longest: as long a list of choices as can be, and one more.
func longest(more int) []api.Choice {
	return slices.Repeat([]api.Choice{{Place: -1, Rule: -1}}, api.MaxRules+more)
}

// outside: numbers that no part of a step may be; some look like small ones when they are cut down.
func outside() []int {
	return []int{math.MinInt, math.MinInt32, -257, -256, -255, -2, 4097, 1 << 16, math.MaxInt32, 1 << 32, 1<<32 + 1, 1<<32 - 1, math.MaxInt - 1, math.MaxInt}
}

// told: as much of it as a reader wants to see.
func told(thing any) string {
	return fmt.Sprintf("%.900s", fmt.Sprintf("%+v", thing))
}

// digits: as many of the bytes as a reader wants to see.
func digits(b []byte) string {
	return fmt.Sprintf("%.600s", fmt.Sprintf("% X", b))
}

// tally counts what a test saw, so that it can tell that it saw enough of it.
type tally map[string]int

func (y tally) want(t testing.TB, least int, all ...string) {
	t.Helper()
	for _, what := range all {
		if y[what] < least {
			t.Errorf("only %d times: %s", y[what], what)
		}
	}
}

// sameSteps: field by field; nil and empty choices are one.
func sameSteps(a, b []api.Step) bool {
	return slices.EqualFunc(a, b, func(a, b api.Step) bool {
		return a.Tag == b.Tag && a.Lit == b.Lit && a.How == b.How && a.Rule == b.Rule && slices.Equal(a.Choices, b.Choices)
	})
}

// wantTaken: the steps may be; these are their bytes; and those are read back.
func wantTaken(t testing.TB, what string, l []api.Step, b []byte) {
	t.Helper()
	if errno, many := wire.Check(l); errno != api.OK || many != len(l) {
		t.Errorf("P21.1: %s: Check(%s): %d, %d, want %d", what, told(l), errno, many, len(l))
	}
	if got, errno := wire.Encode(l); errno != api.OK || !bytes.Equal(got, b) {
		t.Errorf("P21.1: %s: Encode(%s): %s, %d, want %s", what, told(l), digits(got), errno, digits(b))
	}
	if got, errno, at := wire.Decode(b); errno != api.OK || at != len(b) || !sameSteps(got, l) {
		t.Errorf("P21.2, P21.3: %s: Decode(%s): %s, %d, %d, want %s, %d", what, digits(b), told(got), errno, at, told(l), len(b))
	}
}

// wantRefused: the steps may not be, for this, and with that number.
func wantRefused(t testing.TB, what string, l []api.Step, errno api.Errno, at int) {
	t.Helper()
	if got, n := wire.Check(l); got != errno || n != at {
		t.Errorf("P21.1: %s: Check(%s): %d, %d, want %d, %d", what, told(l), got, n, errno, at)
	}
	if b, got := wire.Encode(l); got != errno || len(b) > 0 {
		t.Errorf("P21.1, P4: %s: Encode(%s): %s, %d, want nothing, %d", what, told(l), digits(b), got, errno)
	}
}

// wantFault: the bytes say no steps, for this, at that place.
func wantFault(t testing.TB, what string, b []byte, errno api.Errno, at int) {
	t.Helper()
	if l, got, place := wire.Decode(b); got != errno || place != at || len(l) > 0 {
		t.Errorf("P21.2, P4: %s: Decode(%s): %s, %d, %d, want nothing, %d, %d", what, digits(b), told(l), got, place, errno, at)
	}
}
