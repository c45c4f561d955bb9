package wire

import (
	"lexprior/api"
	"lexprior/octets"
)

// mark is what the bytes begin with: a name, and which form they have.
const mark = "lxd\x01"

// written: the bytes of steps that may be.
func written(l []api.Step) []byte {
	b := put([]byte(mark), len(l))
	for _, s := range l {
		b = putStep(b, s)
	}
	sum := sumOf(b)
	return append(b, sum[:]...)
}

func putStep(b []byte, s api.Step) []byte {
	b = put(append(b, byte(s.Tag)), s.Lit)
	b = putRaised(append(b, byte(s.How)), s.Rule)
	b = put(b, len(s.Choices))
	for _, c := range s.Choices {
		b = putRaised(b, c.Place)
		b = putRaised(b, c.Rule)
	}
	return b
}

func put(b []byte, n int) []byte {
	return append(b, octets.Uint(uint64(n))...)
}

// putRaised: where none may stand it is told as 0, since no number below that has a form.
func putRaised(b []byte, n int) []byte {
	return put(b, n-none)
}

// sumOf: the four bytes of a sum, the lowest first.
func sumOf(b []byte) [4]byte {
	var four [4]byte
	sum := octets.Sum(b)
	for i := range four {
		four[i] = byte(sum >> (8 * i))
	}
	return four
}
