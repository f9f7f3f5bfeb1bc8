package curve_test

import (
	"bytes"
	"math/rand"
	"testing"

	"strongroom/curve"
)

// rooms keeps lists with room behind each of them that holds marks.
type rooms [][]byte

func (all *rooms) list(b []byte) []byte {
	room := append(bytes.Clone(b), bytes.Repeat([]byte{0xee}, 80)...)
	*all = append(*all, room)
	return room[:len(b)]
}

func (all *rooms) String() string { return string(bytes.Join(*all, nil)) }

// spoil changes all of an answer, its spare room too.
func spoil(b []byte) {
	b = b[:cap(b)]
	for i := range b {
		b[i] ^= 0xff
	}
}

// TestLeavesArguments goes through answers and refusals of both calls.
func TestLeavesArguments(t *testing.T) {
	r := rand.New(rand.NewSource(14))
	for _, n := range sizes {
		for _, m := range sizes {
			// The bits that are set by rule, and the point's top bit, stand the other way round.
			scalar, point := someBytes(r, n), someBytes(r, m)
			if n > 31 && m > 31 {
				scalar[0] |= 7
				scalar[31] = scalar[31]&63 | 128
				point[31] |= 128
			}
			var all rooms
			scalar, point = all.list(scalar), all.list(point)
			before := all.String()
			product, _ := curve.Mul(scalar, point)
			spoil(product)
			shown, _ := curve.Base(scalar)
			spoil(shown)
			if all.String() != before {
				t.Errorf("R2: a scalar of %d bytes, a point of %d: an argument was changed or shares the answer's memory", n, m)
			}
		}
	}
}

// TestReadsNoRoom: what stands behind the lists counts for nothing.
func TestReadsNoRoom(t *testing.T) {
	var all rooms
	scalar, point := all.list(unhex(t, aliceScalar)), all.list(unhex(t, bobPoint))
	look(t, "with room behind", scalar, point, unhex(t, bothSecret))
	if got := base(t, scalar); !bytes.Equal(got, unhex(t, alicePoint)) {
		t.Errorf("R5: %x", got)
	}
}

// TestOfOneList: scalar and point may lie in one list, and are still read as they were.
func TestOfOneList(t *testing.T) {
	all := someBytes(rand.New(rand.NewSource(15)), 64)
	before := string(all)
	for from := range 33 {
		look(t, "one list", all[from:from+32], all[:32], byAdding(all[from:from+32], all[:32]))
		look(t, "one list", all[:32], all[from:from+32], byAdding(all[:32], all[from:from+32]))
	}
	if string(all) != before {
		t.Error("R2: an argument was changed")
	}
}

func TestIsNewMemory(t *testing.T) {
	scalar, point := unhex(t, aliceScalar), unhex(t, bobPoint)
	x, y := mul(t, scalar, point), mul(t, scalar, point)
	spoil(x)
	if !bytes.Equal(y, unhex(t, bothSecret)) {
		t.Error("R2: two answers of Mul share memory")
	}
	x, y = base(t, scalar), base(t, scalar)
	spoil(x)
	if !bytes.Equal(y, unhex(t, alicePoint)) {
		t.Error("R2: two answers of Base share memory")
	}
	// A Base behind a spoilt answer still begins at 9.
	if z := base(t, scalar); !bytes.Equal(z, unhex(t, alicePoint)) {
		t.Error("R2: an answer of Base shares memory with what is kept")
	}
}

// TestHangsOnNothingElse: what went ahead, a refusal too, is not kept.
func TestHangsOnNothingElse(t *testing.T) {
	scalar, point := unhex(t, aliceScalar), unhex(t, bobPoint)
	for _, n := range sizes {
		curve.Mul(sized(n), point)
		curve.Mul(scalar, sized(n))
		curve.Base(sized(n))
		look(t, "behind other calls", scalar, point, unhex(t, bothSecret))
		if got := base(t, scalar); !bytes.Equal(got, unhex(t, alicePoint)) {
			t.Errorf("R4: behind other calls: %x", got)
		}
	}
	// The point of nothing leaves nothing behind, either.
	mul(t, scalar, make([]byte, 32))
	look(t, "behind a point of nothing", scalar, point, unhex(t, bothSecret))
}
