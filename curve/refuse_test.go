package curve_test

import (
	"testing"

	"strongroom/api"
	"strongroom/curve"
)

// sized is n bytes with room behind them for the rest of a right list, which is not to be read.
func sized(n int) []byte {
	b := make([]byte, n+64)
	for i := range b {
		b[i] = byte(3*i + 1)
	}
	return b[:n]
}

var sizes = []int{0, 1, 16, 31, 32, 33, 63, 64}

func TestWrongSizes(t *testing.T) {
	for _, n := range sizes {
		for _, m := range sizes {
			b, why := curve.Mul(sized(n), sized(m))
			switch {
			case n == 32 && m == 32:
				if why != api.OK || len(b) != 32 {
					t.Errorf("P5.1: 32 bytes: %v, %x", why, b)
				}
			case why != api.ErrArg || len(b) != 0:
				t.Errorf("P5.1: a scalar of %d bytes and a point of %d: %v, %x", n, m, why, b)
			}
		}
		b, why := curve.Base(sized(n))
		switch {
		case n == 32:
			if why != api.OK || len(b) != 32 {
				t.Errorf("P5.1: Base of 32 bytes: %v, %x", why, b)
			}
		case why != api.ErrArg || len(b) != 0:
			t.Errorf("P5.1: Base of %d bytes: %v, %x", n, why, b)
		}
	}
}

func TestNil(t *testing.T) {
	for i, c := range []struct{ scalar, point []byte }{{nil, nil}, {nil, sized(32)}, {sized(32), nil}, {nil, sized(0)}, {sized(31), nil}} {
		if b, why := curve.Mul(c.scalar, c.point); why != api.ErrArg || len(b) != 0 {
			t.Errorf("P5.1: case %d: %v, %x", i, why, b)
		}
	}
	if b, why := curve.Base(nil); why != api.ErrArg || len(b) != 0 {
		t.Errorf("P5.1: Base of nil: %v, %x", why, b)
	}
}

// TestWrongSizesOfNothing: a point of which every answer is noughts is refused all the same beside a wrong scalar.
func TestWrongSizesOfNothing(t *testing.T) {
	for _, n := range []int{0, 31, 33} {
		if b, why := curve.Mul(sized(n), make([]byte, 32)); why != api.ErrArg || len(b) != 0 {
			t.Errorf("P5.1: a scalar of %d bytes and the point 0: %v, %x", n, why, b)
		}
		if b, why := curve.Mul(sized(32), make([]byte, n)); why != api.ErrArg || len(b) != 0 {
			t.Errorf("P5.1: a point of %d noughts: %v, %x", n, why, b)
		}
	}
}
