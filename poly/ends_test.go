package poly_test

import (
	"bytes"
	"math/big"
	"math/rand"
	"slices"
	"testing"

	"strongroom/api"
	"strongroom/poly"
)

// seconds are second halves at which the addition at the end carries and wraps.
func seconds() [][]byte {
	ones := bytes.Repeat([]byte{0xff}, 16)
	return [][]byte{
		make([]byte, 16),
		ones,
		low(big.NewInt(1)),
		low(big.NewInt(5)),
		low(new(big.Int).Sub(great(ones), big.NewInt(4))),
		low(power(127)),
		low(power(26)),
		low(new(big.Int).Sub(power(104), big.NewInt(1))),
	}
}

// ends are numbers next to which a limb, the sum's bytes or the number itself comes to its end.
func ends() []*big.Int {
	var all []*big.Int
	for _, middle := range []*big.Int{new(big.Int), power(26), power(52), power(78), power(104), power(128), power(129), prime} {
		for by := int64(-12); by <= 12; by++ {
			n := new(big.Int).Add(middle, big.NewInt(by))
			all = append(all, n.Mod(n, prime))
		}
	}
	return all
}

// TestSumOfPilesAround has a factor of 1: pieces are added up alone, to whole multiples of 2^130 - 5 and around them.
func TestSumOfPilesAround(t *testing.T) {
	one := low(big.NewInt(1))
	for multiple := int64(1); multiple <= 3; multiple++ {
		for by := int64(-12); by <= 12; by++ {
			total := new(big.Int).Mul(prime, big.NewInt(multiple))
			total.Add(total, big.NewInt(by))
			b := piecesOf(total)
			for _, second := range seconds() {
				key := slices.Concat(one, second)
				want := new(big.Int).Mod(total, prime)
				want.Add(want, great(second))
				got, why := poly.Sum(key, b)
				if why != api.OK || !bytes.Equal(got, low(want)) {
					t.Errorf("P3.1: %d times the prime and %d, with %x: %v, %x, want %x", multiple, by, second, why, got, low(want))
				}
				look(t, "around", key, b)
			}
		}
	}
}

// piecesOf is whole pieces that add up to a total of at least 2^129: each counts for 2^128 and its bytes.
func piecesOf(total *big.Int) []byte {
	rest := new(big.Int).Set(total)
	var b []byte
	for rest.Sign() > 0 {
		piece := new(big.Int).Sub(rest, power(128))
		if rest.Cmp(power(129)) >= 0 {
			piece.Sub(power(128), big.NewInt(1))
			// What is left must be enough for a piece.
			if left := new(big.Int).Sub(rest, power(129)); left.Cmp(power(128)) < 0 {
				piece.SetInt64(0)
			}
		}
		b = append(b, low(piece)...)
		rest.Sub(rest, piece)
		rest.Sub(rest, power(128))
	}
	return b
}

// TestSumOfEnds has great factors, and pieces that are chosen so that the pile ends just where an end is.
func TestSumOfEnds(t *testing.T) {
	r := rand.New(rand.NewSource(5))
	for _, end := range ends() {
		for i, second := range seconds() {
			key, b := reach(t, r, end, second, 1+i%3)
			want := low(new(big.Int).Add(end, great(second)))
			got, why := poly.Sum(key, b)
			if why != api.OK || !bytes.Equal(got, want) {
				t.Errorf("P3.1: a pile of %x, with %x: %v, %x, want %x", end, second, why, got, want)
			}
		}
	}
}

// reach is a key with that second half and a text, of one or more pieces and one more (a single one is never worth nought), whose pile is the end.
func reach(t *testing.T, r *rand.Rand, end *big.Int, second []byte, pieces int) (key, b []byte) {
	t.Helper()
	for range 1000 {
		key = slices.Concat(someBytes(r, 16), second)
		b = someBytes(r, 16*pieces)
		last := new(big.Int).ModInverse(factor(key), prime)
		last.Mul(last, end)
		last.Sub(last, pile(key, b))
		last.Mod(last, prime)
		last.Sub(last, power(128))
		if last.Sign() >= 0 && last.Cmp(power(128)) < 0 {
			return key, append(b, low(last)...)
		}
	}
	t.Fatalf("no text for %x", end)
	return nil, nil
}

// TestSumWraps: the sum is one modulo 2^128.
func TestSumWraps(t *testing.T) {
	ones := bytes.Repeat([]byte{0xff}, 16)
	for _, c := range []struct {
		first, second *big.Int
		b             []byte
		want          *big.Int
	}{
		// One byte of 0 counts for 2^8, one of 255 for 2^9 - 1.
		{big.NewInt(1), great(ones), []byte{0}, big.NewInt(255)},
		{big.NewInt(1), great(ones), []byte{255}, big.NewInt(510)},
		{big.NewInt(1), new(big.Int).Sub(power(128), big.NewInt(256)), []byte{0}, new(big.Int)},
		{big.NewInt(1), new(big.Int).Sub(power(128), big.NewInt(257)), []byte{0}, great(ones)},
		// A piece of noughts counts for 2^128, which is none of the sum's bytes.
		{big.NewInt(1), new(big.Int), make([]byte, 16), new(big.Int)},
		{big.NewInt(1), great(ones), make([]byte, 16), great(ones)},
		{big.NewInt(1), great(ones), ones, new(big.Int).Sub(power(128), big.NewInt(2))},
	} {
		got, why := poly.Sum(slices.Concat(low(c.first), low(c.second)), c.b)
		if why != api.OK || !bytes.Equal(got, low(c.want)) {
			t.Errorf("P3.1: %x with %x: %v, %x, want %x", c.b, c.second, why, got, low(c.want))
		}
	}
}
