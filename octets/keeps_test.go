package octets_test

import (
	"bytes"
	"math"
	"sync"
	"testing"

	"lexprior/api"
	"lexprior/octets"
)

// spoil: turns all that a list has room for, also behind its length.
func spoil(b []byte) {
	b = b[:cap(b)]
	for i := range b {
		b[i] ^= 0xff
	}
}

func TestAnswersAreNewMemory(t *testing.T) {
	for name, call := range map[string]func() []byte{
		"Uint(0)":       func() []byte { return octets.Uint(0) },
		"Uint(300)":     func() []byte { return octets.Uint(300) },
		"Uint(max)":     func() []byte { return octets.Uint(math.MaxUint64) },
		"Text(empty)":   func() []byte { return octets.Text("") },
		"Text(ab)":      func() []byte { return octets.Text("ab") },
		"Unhex(00ff0a)": func() []byte { b, _, _ := octets.Unhex("00ff0a"); return b },
	} {
		first := call()
		want := bytes.Clone(first)
		second := call()
		spoil(first)
		if !bytes.Equal(second, want) {
			t.Errorf("P1.7: %s: two answers share memory", name)
		}
		if third := call(); !bytes.Equal(third, want) {
			t.Errorf("P1.7: %s: an answer shares memory with what the program keeps", name)
		}
	}
}

func TestArgumentsAreNotChangedNorKept(t *testing.T) {
	b := append(make([]byte, 0, 64), 0xac, 2, 3, 'a', 'b', 'c')
	whole := bytes.Clone(b[:cap(b)])
	octets.ReadUint(b, 0)
	octets.Sum(b)
	digits := octets.Hex(b)
	text, _, errno := octets.ReadText(b, 2)
	if !bytes.Equal(b[:cap(b)], whole) {
		t.Error("P1.7: an argument was changed")
	}
	spoil(b)
	if text != "abc" || errno != api.OK {
		t.Errorf("P1.7: ReadText's answer shares memory with its argument: %q, %d", text, errno)
	}
	if digits != "ac0203616263" {
		t.Errorf("P1.7: Hex's answer shares memory with its argument: %q", digits)
	}
}

// TestAnyArguments: nothing panics, whatever bytes and places there are; and an answer's place lies where the chapter says.
func TestAnyArguments(t *testing.T) {
	places := []int{math.MinInt, math.MinInt32, -2, -1, 0, 1, 2, 9, 10, 11, 12, 13, 40, math.MaxInt32, math.MaxInt - 1, math.MaxInt}
	for i := range 4000 {
		b := sample(uint32(i), i%23)
		if i%3 == 0 {
			for k := range b {
				b[k] |= 0x80
			}
		}
		for _, at := range places {
			n, to, errno := octets.ReadUint(b, at)
			checkPlace(t, "ReadUint", b, at, to, errno)
			if errno != api.OK && n != 0 {
				t.Errorf("P4: ReadUint(% x, %d) = %d beside an error", b, at, n)
			}
			s, to, errno := octets.ReadText(b, at)
			checkPlace(t, "ReadText", b, at, to, errno)
			if errno != api.OK && s != "" {
				t.Errorf("P4: ReadText(% x, %d) = %q beside an error", b, at, s)
			}
		}
		if got, errno, at := octets.Unhex(string(b)); errno != api.OK && (len(got) != 0 || at < 0 || at > len(b)) {
			t.Errorf("P4: Unhex(%q) = % x, %d, %d", b, got, errno, at)
		}
		octets.Text(string(b))
	}
}

func checkPlace(t *testing.T, call string, b []byte, at, to int, errno api.Errno) {
	t.Helper()
	outside := at < 0 || at > len(b)
	var right bool
	switch errno {
	case api.ErrArg:
		right = outside && to == at
	case api.ErrNumber:
		right = !outside && to == at
	case api.ErrShort:
		right = !outside && to == len(b)
	case api.OK:
		right = !outside && to > at && to <= len(b)
	}
	if !right {
		t.Errorf("P1, P4: %s(% x, %d): place %d, error %d", call, b, at, to, errno)
	}
}

func TestNilAndEmptyAreOne(t *testing.T) {
	for _, at := range []int{-1, 0, 1} {
		n1, to1, errno1 := octets.ReadUint(nil, at)
		n2, to2, errno2 := octets.ReadUint([]byte{}, at)
		if n1 != n2 || to1 != to2 || errno1 != errno2 {
			t.Errorf("P1: ReadUint tells nil from empty at %d", at)
		}
		s1, to1, errno1 := octets.ReadText(nil, at)
		s2, to2, errno2 := octets.ReadText([]byte{}, at)
		if s1 != s2 || to1 != to2 || errno1 != errno2 {
			t.Errorf("P1: ReadText tells nil from empty at %d", at)
		}
	}
	if octets.Sum(nil) != octets.Sum([]byte{}) || octets.Hex(nil) != octets.Hex([]byte{}) {
		t.Error("P1: Sum or Hex tells nil from empty")
	}
}

// TestSameAnswersAtOneTime: calls that run beside each other answer as they do alone.
func TestSameAnswersAtOneTime(t *testing.T) {
	b := octets.Text(string(sample(3, 5000)))
	sum, digits := octets.Sum(b), octets.Hex(b)
	var workers sync.WaitGroup
	for range 8 {
		workers.Go(func() {
			for range 50 {
				back, errno, _ := octets.Unhex(digits)
				_, to, errnoText := octets.ReadText(b, 0)
				if octets.Sum(b) != sum || octets.Hex(b) != digits || !bytes.Equal(back, b) || errno != api.OK || to != len(b) || errnoText != api.OK {
					t.Error("P3: another answer to the same arguments")
				}
			}
		})
	}
	workers.Wait()
}
