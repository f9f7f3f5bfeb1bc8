package curve_test

import (
	"bytes"
	"math/rand"
	"testing"
)

// TestBothHaveOne: what one makes of the other's point is what the other makes of theirs.
func TestBothHaveOne(t *testing.T) {
	all := append(scalars(12, 16), unhex(t, aliceScalar), unhex(t, bobScalar))
	for i, a := range all {
		for j, b := range all {
			x, y := mul(t, a, base(t, b)), mul(t, b, base(t, a))
			if !bytes.Equal(x, y) {
				t.Errorf("P5.2: %x and %x: %x, %x", a, b, x, y)
			}
			// A third one's point makes another secret.
			if third := all[(j+1)%len(all)]; i != j && bytes.Equal(x, mul(t, a, base(t, third))) {
				t.Errorf("P5.1: %x has one secret with %x and with %x", a, b, third)
			}
		}
	}
}

// TestThreeInAnyOrder: each of three adds their scalar to what comes from the one ahead.
func TestThreeInAnyOrder(t *testing.T) {
	r := rand.New(rand.NewSource(13))
	orders := [][3]int{{0, 1, 2}, {0, 2, 1}, {1, 0, 2}, {1, 2, 0}, {2, 0, 1}, {2, 1, 0}}
	for n := range 20 {
		three := [3][]byte{someBytes(r, 32), someBytes(r, 32), someBytes(r, 32)}
		if n < 4 {
			// Those at the ends take part, and two may be the same.
			three[n%3] = scalars(0, 0)[n]
			three[(n+1)%3] = scalars(0, 0)[n/2]
		}
		want := mul(t, three[2], mul(t, three[1], base(t, three[0])))
		// From another point than 9, too.
		start := someBytes(r, 32)
		wantOfStart := mul(t, three[2], mul(t, three[1], mul(t, three[0], start)))
		for _, o := range orders {
			if got := mul(t, three[o[2]], mul(t, three[o[1]], base(t, three[o[0]]))); !bytes.Equal(got, want) {
				t.Errorf("P5.2: %x in the order %v: %x, want %x", three, o, got, want)
			}
			if got := mul(t, three[o[2]], mul(t, three[o[1]], mul(t, three[o[0]], start))); !bytes.Equal(got, wantOfStart) {
				t.Errorf("P5.1: %x in the order %v from %x: %x, want %x", three, o, start, got, wantOfStart)
			}
		}
	}
}
