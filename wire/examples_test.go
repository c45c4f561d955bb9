package wire_test

import (
	"testing"

	"lexprior/api"
	"lexprior/octets"
)

// withSum: bytes, and the four of octets.Sum behind, the lowest first.
func withSum(b []byte) []byte {
	n := octets.Sum(b)
	return append(b, byte(n), byte(n>>8), byte(n>>16), byte(n>>24))
}

// TestExamples: the chapter's.
func TestExamples(t *testing.T) {
	wantTaken(t, "no steps", nil, withSum(unhex("6C 78 64 01 00")))
	one := []api.Step{{Tag: api.PlusDelta, Lit: 0, How: api.HowFact, Rule: -1}}
	wantTaken(t, "one step", one, withSum(unhex("6C 78 64 01 01 01 00 01 00 00")))
}
