package curve

import (
	"math/big"
	"math/rand"
	"testing"
)

// lowestEnd is what the lowest limb may be between two reckonings.
const lowestEnd = limbMask + 38

var prime = new(big.Int).Sub(new(big.Int).Lsh(big.NewInt(1), 255), big.NewInt(19))

// worth is the number of the limbs, modulo the prime.
func worth(n number) *big.Int {
	sum := new(big.Int)
	for i := limbs - 1; i >= 0; i-- {
		sum.Lsh(sum, limbBits)
		sum.Add(sum, new(big.Int).SetUint64(n[i]))
	}
	return sum.Mod(sum, prime)
}

// endNumber is a number of which most limbs are at their ends.
func endNumber(r *rand.Rand) number {
	ends := []uint64{0, 1, limbMask - 1, limbMask}
	var n number
	for i := range n {
		n[i] = uint64(r.Int63n(limbMask + 1))
		if r.Intn(4) > 0 {
			n[i] = ends[r.Intn(len(ends))]
		}
	}
	if r.Intn(2) > 0 {
		n[0] = lowestEnd - uint64(r.Intn(60))
	}
	return n
}

// settled looks whether a reckoning's answer is worth what it should be, and whether its limbs are such as the next one may be given.
func settled(t *testing.T, what string, x, y, got number, want *big.Int) {
	t.Helper()
	want.Mod(want, prime)
	if worth(got).Cmp(want) != 0 {
		t.Errorf("P5.1: %x %s %x: %x, want %x", x, what, y, got, want)
	}
	for i, limb := range got {
		if limb > limbMask && (i > 0 || limb > lowestEnd) {
			t.Errorf("P5.1: %x %s %x: limb %d is %x", x, what, y, i, limb)
		}
	}
}

// TestReckonings has limbs at their ends, which scalars and points hardly ever lead to.
func TestReckonings(t *testing.T) {
	r := rand.New(rand.NewSource(16))
	for n := range 20000 {
		x, y := endNumber(r), endNumber(r)
		if n == 0 {
			x = number{lowestEnd, limbMask, limbMask, limbMask, limbMask}
			y = x
		}
		if n == 1 {
			x, y = number{}, number{lowestEnd, limbMask, limbMask, limbMask, limbMask}
		}
		settled(t, "plus", x, y, plus(x, y), new(big.Int).Add(worth(x), worth(y)))
		settled(t, "minus", x, y, minus(x, y), new(big.Int).Sub(worth(x), worth(y)))
		settled(t, "times", x, y, times(x, y), new(big.Int).Mul(worth(x), worth(y)))
		if n < 300 {
			settled(t, "inverse", x, number{}, inverse(x), inverseOf(worth(x)))
		}
	}
}

// inverseOf is nought for nought.
func inverseOf(n *big.Int) *big.Int {
	if n.Sign() == 0 {
		return n
	}
	return new(big.Int).ModInverse(n, prime)
}

// written looks whether the number's bytes are those of what it is worth, and are read as that again.
func written(t *testing.T, n number) {
	t.Helper()
	want := worth(n)
	b := n.bytes()
	if got := worth(numberOf(b)); got.Cmp(want) != 0 {
		t.Errorf("P5.1: %x: %x is read as %x", want, b, got)
	}
	sum := new(big.Int)
	for i := size - 1; i >= 0; i-- {
		sum.Lsh(sum, 8)
		sum.Add(sum, big.NewInt(int64(b[i])))
	}
	if sum.Cmp(want) != 0 {
		t.Errorf("P5.1: %x: written as %x", want, b)
	}
}

func TestNumbersBytes(t *testing.T) {
	r := rand.New(rand.NewSource(17))
	for range 20000 {
		written(t, endNumber(r))
	}
	// Around nought and around the prime.
	for by := range uint64(100) {
		written(t, number{by})
		written(t, number{lowestEnd - by, limbMask, limbMask, limbMask, limbMask})
	}
}
