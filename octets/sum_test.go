package octets_test

import (
	"bytes"
	"hash/crc32"
	"testing"

	"lexprior/octets"
)

func TestSumValues(t *testing.T) {
	ascending := make([]byte, 32)
	for i := range ascending {
		ascending[i] = byte(i)
	}
	for _, c := range []struct {
		b    []byte
		want uint32
	}{
		{nil, 0},
		{[]byte{}, 0},
		{[]byte("123456789"), 0xe3069283},
		{bytes.Repeat([]byte{0}, 32), 0x8a9136aa},
		{bytes.Repeat([]byte{0xff}, 32), 0x62a8ab43},
		{ascending, 0x46dd794e},
	} {
		if got := octets.Sum(c.b); got != c.want {
			t.Errorf("P1.3: Sum(% x) = %08X, want %08X", c.b, got, c.want)
		}
	}
}

func TestSumAgainstLibrary(t *testing.T) {
	castagnoli := crc32.MakeTable(crc32.Castagnoli)
	for i := range 1 << 8 {
		b := []byte{byte(i)}
		if got, want := octets.Sum(b), crc32.Checksum(b, castagnoli); got != want {
			t.Errorf("P1.3: Sum(% x) = %08X, want %08X", b, got, want)
		}
	}
	for size := range 300 {
		b := sample(uint32(size), size)
		if got, want := octets.Sum(b), crc32.Checksum(b, castagnoli); got != want {
			t.Errorf("P1.3: Sum of %d bytes = %08X, want %08X", size, got, want)
		}
	}
	b := sample(1, 1<<20)
	if got, want := octets.Sum(b), crc32.Checksum(b, castagnoli); got != want {
		t.Errorf("P1.3: Sum of 2^20 bytes = %08X, want %08X", got, want)
	}
}

// turned: b with the bits of a run turned, those that run has set, from a bit's place on.
func turned(b []byte, from int, run uint32) []byte {
	b = bytes.Clone(b)
	for i := range 32 {
		if run>>i&1 == 1 {
			b[(from+i)/8] ^= 1 << ((from + i) % 8)
		}
	}
	return b
}

func TestTurnedBitsHaveAnotherSum(t *testing.T) {
	for _, size := range []int{4, 5, 9, 40} {
		b := sample(uint32(size), size)
		sum := octets.Sum(b)
		for from := 0; from+32 <= 8*size; from++ {
			for i := range 32 {
				checkTurned(t, b, sum, from, 1<<i)
				checkTurned(t, b, sum, from, 1<<i|1)
				checkTurned(t, b, sum, from, 0xffffffff>>i)
			}
			for _, run := range sample(uint32(from), 50) {
				checkTurned(t, b, sum, from, uint32(run)*0x01010101|1)
				checkTurned(t, b, sum, from, uint32(run)*2654435761|1<<31)
			}
			checkTurned(t, b, sum, from, 0x82f63b78)
			checkTurned(t, b, sum, from, 0x1edc6f41)
		}
	}
}

func checkTurned(t *testing.T, b []byte, sum uint32, from int, run uint32) {
	t.Helper()
	if octets.Sum(turned(b, from, run)) == sum {
		t.Errorf("P1.6: % x: the bits %08x turned from bit %d on leave the sum %08X", b, run, from, sum)
	}
}

// TestShortTurnedBits: texts too short for a run of 32 bits, all of their bits turned in all ways.
func TestShortTurnedBits(t *testing.T) {
	for _, b := range [][]byte{{0}, {0xff}, {0, 0}, {0x5a, 0xc3}} {
		sum := octets.Sum(b)
		for run := 1; run < 1<<(8*len(b)); run++ {
			checkTurned(t, b, sum, 0, uint32(run))
		}
	}
}
