package kex_test

import (
	"bytes"
	"math/rand"
	"testing"

	"strongroom/api"
	"strongroom/kex"
)

func mustInit(t *testing.T, private, want []byte) {
	t.Helper()
	if b, why := kex.Init(private); why != api.OK || !bytes.Equal(b, want) {
		t.Errorf("P10.1: Init(%x): %v, %x; want %x", private, why, b, want)
	}
}

func TestInit(t *testing.T) {
	mustInit(t, unhex(t, aliceKey), unhex(t, "1e00000020"+alicePoint))
	for _, private := range [][]byte{make([]byte, 32), bytes.Repeat([]byte{255}, 32), unhex(t, bobKey)} {
		mustInit(t, private, payload(30, pointOf(t, private)))
	}
	r := rand.New(rand.NewSource(1))
	for range 50 {
		private := someBytes(r, 32)
		mustInit(t, private, payload(30, pointOf(t, private)))
	}
}

// wrongSizes are those that no private key has.
var wrongSizes = []int{0, 1, 16, 30, 31, 33, 34, 63, 64, 65, 1000}

// TestInitOfWrongSizes: bytes that would be the rest of a right key stand in the room behind the short ones.
func TestInitOfWrongSizes(t *testing.T) {
	for _, n := range wrongSizes {
		if b, why := kex.Init(stepped(1000, 1, 3)[:n]); why != api.ErrArg || len(b) != 0 {
			t.Errorf("P10.1: Init of %d bytes: %v, %x", n, why, b)
		}
	}
	if b, why := kex.Init(nil); why != api.ErrArg || len(b) != 0 {
		t.Errorf("P10.1: Init of nil: %v, %x", why, b)
	}
}
