package poly_test

import (
	"bytes"
	"math/rand"
	"testing"

	"strongroom/poly"
)

// same asks both ways round and holds the answer against what must be.
func same(t *testing.T, what string, x, y []byte, want bool) {
	t.Helper()
	if got := poly.Same(x, y); got != want {
		t.Errorf("P3.1: %s: Same(%x, %x) is %v", what, x, y, got)
	}
	if got := poly.Same(y, x); got != want {
		t.Errorf("P3.1: %s: Same(%x, %x) is %v", what, y, x, got)
	}
}

func TestSameOfEqual(t *testing.T) {
	r := rand.New(rand.NewSource(8))
	for _, n := range lengths {
		x := someBytes(r, n)
		same(t, "copies", x, bytes.Clone(x), true)
		same(t, "one list", x, x, true)
	}
	for n := range 256 {
		same(t, "one byte", []byte{byte(n)}, []byte{byte(n)}, true)
	}
}

// TestSameOfOneBit turns each bit, those of the first and of the last byte too.
func TestSameOfOneBit(t *testing.T) {
	r := rand.New(rand.NewSource(9))
	for _, n := range []int{1, 2, 15, 16, 17, 33} {
		x := someBytes(r, n)
		for bit := range 8 * n {
			y := bytes.Clone(x)
			y[bit/8] ^= 1 << (bit % 8)
			same(t, "one bit", x, y, false)
		}
	}
}

// TestSameOfTwo: differences don't make up for one another.
func TestSameOfTwo(t *testing.T) {
	x := make([]byte, 16)
	for i := range x {
		for j := range i {
			y := bytes.Clone(x)
			y[i], y[j] = 0x80, 0x80
			same(t, "one bit in two bytes", x, y, false)
			y[i], y[j] = 1, 255
			same(t, "differences that add up to 256", x, y, false)
		}
	}
	same(t, "all bits", x, bytes.Repeat([]byte{255}, 16), false)
	same(t, "turned round", []byte{1, 2, 3}, []byte{3, 2, 1}, false)
}

func TestSameOfUnlikeLengths(t *testing.T) {
	x := make([]byte, 40)
	for i := range 40 {
		for j := range i {
			same(t, "unlike lengths", x[:i], x[:j], false)
		}
	}
	same(t, "the end alone", []byte{1, 2, 3}, []byte{2, 3}, false)
	same(t, "the beginning alone", []byte{1, 2, 3}, []byte{1, 2}, false)
}

func TestSameOfNothing(t *testing.T) {
	room := []byte{1, 2, 3}
	same(t, "nil", nil, nil, true)
	same(t, "nil and empty", nil, []byte{}, true)
	same(t, "empty", []byte{}, room[:0], true)
	same(t, "nil and a nought", nil, []byte{0}, false)
	same(t, "empty and bytes", []byte{}, room, false)
}

// TestSameReadsNoRoom: unlike room doesn't make lists unlike, and nothing is written.
func TestSameReadsNoRoom(t *testing.T) {
	x, y := []byte("sum and this"), []byte("sum or that")
	same(t, "unlike room", x[:3], y[:3], true)
	same(t, "like room", []byte("ab same")[:2], []byte("ac same")[:2], false)
	if string(x) != "sum and this" || string(y) != "sum or that" {
		t.Errorf("R2: an argument was changed: %s, %s", x, y)
	}
}
