package curve_test

import (
	"bytes"
	"math/big"
	"math/rand"
	"slices"
	"testing"
)

// scalars are some of which all bits count, and those at the ends.
func scalars(seed int64, n int) [][]byte {
	r := rand.New(rand.NewSource(seed))
	all := [][]byte{make([]byte, 32), bytes.Repeat([]byte{255}, 32), bytes.Repeat([]byte{0xaa}, 32), bytes.Repeat([]byte{0x55}, 32)}
	for range n {
		all = append(all, someBytes(r, 32))
	}
	return all
}

// nearEnds are numbers next to which a limb of some size, a word or the number itself comes to its end.
func nearEnds() []*big.Int {
	var all []*big.Int
	for _, middle := range []*big.Int{new(big.Int), power(51), power(102), power(153), power(204), power(254), prime} {
		for by := int64(-20); by <= 20; by++ {
			n := new(big.Int).Add(middle, big.NewInt(by))
			all = append(all, n.Mod(n, power(255)))
		}
	}
	for _, bit := range []uint{8, 25, 26, 32, 50, 52, 64, 128, 192, 203, 205, 248, 252, 253} {
		all = append(all, power(bit), new(big.Int).Sub(power(bit), big.NewInt(1)), new(big.Int).Sub(prime, power(bit)))
	}
	return all
}

func TestMulOfPointsAtEnds(t *testing.T) {
	few := scalars(2, 1)
	for i, point := range nearEnds() {
		added(t, "a point at an end", few[i%len(few)], low(point))
		added(t, "a point at an end", few[len(few)-1], low(point))
	}
}

// TestMulOfOneBit has scalars and points of which one bit alone is set, or not set.
func TestMulOfOneBit(t *testing.T) {
	r := rand.New(rand.NewSource(3))
	all := new(big.Int).Sub(power(256), big.NewInt(1))
	for bit := range uint(256) {
		one := power(bit)
		other := new(big.Int).Xor(all, one)
		added(t, "a scalar of one bit", low(one), someBytes(r, 32))
		added(t, "a point of one bit", someBytes(r, 32), low(one))
		if bit%8 < 2 {
			added(t, "a scalar without a bit", low(other), small(9))
			added(t, "a point without a bit", someBytes(r, 32), low(other))
		}
	}
}

// TestAnswersAtEnds has points that are chosen so that the answer is a number at an end: those from 0 to 18 could be written in 255 bits in two ways, of which one is right.
func TestAnswersAtEnds(t *testing.T) {
	found, ofTwoWays := 0, 0
	for i, want := range nearEnds() {
		want.Mod(want, prime)
		if want.Sign() == 0 {
			continue
		}
		spot := spotAt(want)
		cycle := spot.cycle()
		if cycle == nil {
			continue
		}
		found++
		if want.Cmp(big.NewInt(19)) < 0 {
			ofTwoWays++
		}
		for _, scalar := range scalars(int64(i), 2) {
			back := new(big.Int).ModInverse(byRule(scalar), cycle)
			look(t, "an answer at an end", scalar, low(spot.taken(back).u), low(want))
		}
	}
	if found < 50 || ofTwoWays < 5 {
		t.Errorf("only %d answers at ends, %d below 19", found, ofTwoWays)
	}
}

// turnedAt is b with that bit turned.
func turnedAt(b []byte, bit int) []byte {
	b = slices.Clone(b)
	b[bit/8] ^= 1 << (bit % 8)
	return b
}

// TestScalarsBits: those that are set by rule count for nothing, whichever of them are turned; all others count.
func TestScalarsBits(t *testing.T) {
	ruled := []int{0, 1, 2, 254, 255}
	for i, scalar := range scalars(4, 2) {
		point := someBytes(rand.New(rand.NewSource(int64(i))), 32)
		shown, product := base(t, scalar), mul(t, scalar, point)
		for turned := range 1 << len(ruled) {
			other := scalar
			for j, bit := range ruled {
				if turned>>j&1 == 1 {
					other = turnedAt(other, bit)
				}
			}
			if !bytes.Equal(base(t, other), shown) || !bytes.Equal(mul(t, other, point), product) {
				t.Errorf("P5.1: the scalar's bits by rule: %x, %x", scalar, other)
			}
		}
		for bit := 3; bit < 254; bit++ {
			if bytes.Equal(base(t, turnedAt(scalar, bit)), shown) {
				t.Errorf("P5.1: bit %d of the scalar %x does not count", bit, scalar)
			}
		}
	}
}

// TestPointsTopBit: it counts for nothing, and all others count.
func TestPointsTopBit(t *testing.T) {
	r := rand.New(rand.NewSource(5))
	for _, scalar := range scalars(6, 2) {
		for _, point := range append(scalars(7, 2), small(9)) {
			want := mul(t, scalar, point)
			look(t, "the point's top bit", scalar, turnedAt(point, 255), want)
		}
		point := someBytes(r, 32)
		want := mul(t, scalar, point)
		for bit := range 255 {
			if bytes.Equal(mul(t, scalar, turnedAt(point, bit)), want) {
				t.Errorf("P5.1: bit %d of the point %x does not count", bit, point)
			}
		}
	}
}

// TestPointsFromPrimeOn: those up to 2^255 - 1 are what they are without the prime.
func TestPointsFromPrimeOn(t *testing.T) {
	for n := range byte(19) {
		point := low(new(big.Int).Add(prime, big.NewInt(int64(n))))
		for _, scalar := range scalars(8, 4) {
			want := mul(t, scalar, small(n))
			look(t, "from the prime on", scalar, point, want)
			look(t, "from the prime on, with the top bit", scalar, turnedAt(point, 255), want)
			look(t, "from the prime on, by adding", scalar, point, byAdding(scalar, small(n)))
		}
	}
	// The last of them is all ones but for the top bit.
	last := turnedAt(bytes.Repeat([]byte{255}, 32), 255)
	if want := low(new(big.Int).Add(prime, big.NewInt(18))); !bytes.Equal(last, want) {
		t.Fatalf("%x, want %x", last, want)
	}
	// Those ahead of the prime are what they are.
	for n := int64(1); n < 20; n++ {
		for _, scalar := range scalars(9, 1) {
			added(t, "ahead of the prime", scalar, low(new(big.Int).Sub(prime, big.NewInt(n))))
		}
	}
}

// TestPointsOfNothing: eight times these is the point that adds nothing, and so is each scalar times.
func TestPointsOfNothing(t *testing.T) {
	points := [][]byte{
		small(0),
		small(1),
		low(new(big.Int).Sub(prime, big.NewInt(1))),
		low(prime),
		low(new(big.Int).Add(prime, big.NewInt(1))),
		unhex(t, "e0eb7a7c3b41b8ae1656e3faf19fc46ada098deb9c32b1fd866205165f49b800"),
		unhex(t, "5f9c95bca3508c24b1d0b1559c83ef5b04445cc4581c8e86d8224eddd09f1157"),
	}
	for _, point := range points {
		for _, scalar := range scalars(10, 8) {
			look(t, "a point of nothing", scalar, point, make([]byte, 32))
			look(t, "a point of nothing, with the top bit", scalar, turnedAt(point, 255), make([]byte, 32))
			added(t, "a point of nothing", scalar, point)
		}
	}
}

// TestPointsBesideNothing: those next to the ones of nothing, 1 off, are not of nothing.
func TestPointsBesideNothing(t *testing.T) {
	for _, point := range []*big.Int{big.NewInt(2), new(big.Int).Sub(prime, big.NewInt(2)), new(big.Int).Add(prime, big.NewInt(2))} {
		for _, scalar := range scalars(11, 4) {
			if bytes.Equal(mul(t, scalar, low(point)), make([]byte, 32)) {
				t.Errorf("P5.1: Mul(%x, %x): noughts", scalar, point)
			}
			added(t, "beside a point of nothing", scalar, low(point))
		}
	}
}
