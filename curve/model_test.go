package curve_test

import (
	"math/big"
	"slices"
	"testing"
)

// Coordinates are modulo prime. Points that were taken a multiple of 8 times are, taken order times more or, on curves of the other kind, twinOrder times, the one that adds nothing.
var (
	prime     = new(big.Int).Sub(power(255), big.NewInt(19))
	slope     = big.NewInt(486662)
	order     = great(reversed("1000000000000000000000000000000014def9dea2f79cd65812631a5cf5d3ed"))
	twinOrder = great(reversed("1fffffffffffffffffffffffffffffffd6420c42ba10c6534fdb39cb4614581d"))
)

func power(n uint) *big.Int { return new(big.Int).Lsh(big.NewInt(1), n) }

// reversed is the bytes of a number that is written with the highest first, the lowest first.
func reversed(s string) []byte {
	n, _ := new(big.Int).SetString(s, 16)
	return low(n)
}

// great is the number of bytes, the lowest first.
func great(b []byte) *big.Int {
	b = slices.Clone(b)
	slices.Reverse(b)
	return new(big.Int).SetBytes(b)
}

// low is the lowest 32 bytes of a number, the lowest first.
func low(n *big.Int) []byte {
	b := new(big.Int).Mod(n, power(256)).FillBytes(make([]byte, 32))
	slices.Reverse(b)
	return b
}

// spot is a point by both its coordinates on the curve stretch * v^2 = u^3 + 486662 * u^2 + u. Without coordinates it is the one that adds nothing.
type spot struct{ u, v, stretch *big.Int }

// spotAt is the point (u, 1) of the curve that goes through it, of which the stretch is what stands at the right: Mul's answer is the same for every stretch. There is none at 0.
func spotAt(u *big.Int) spot {
	right := new(big.Int).Add(u, slope)
	right.Mul(right, u)
	right.Add(right, big.NewInt(1))
	right.Mul(right, u)
	right.Mod(right, prime)
	return spot{new(big.Int).Mod(u, prime), big.NewInt(1), right}
}

func (s spot) nothing() bool { return s.u == nil }

// with is the sum of two points: where the line through both meets the curve again, with the other sign.
func (s spot) with(other spot) spot {
	if s.nothing() {
		return other
	}
	if other.nothing() {
		return s
	}
	rise, run := new(big.Int).Sub(other.v, s.v), new(big.Int).Sub(other.u, s.u)
	if run.Sign() == 0 {
		if rise.Sign() != 0 || s.v.Sign() == 0 {
			return spot{stretch: s.stretch}
		}
		// The line that touches: 3u^2 + 2 * 486662 * u + 1 by 2 * stretch * v.
		rise.Mul(s.u, big.NewInt(3))
		rise.Add(rise, new(big.Int).Lsh(slope, 1))
		rise.Mul(rise, s.u)
		rise.Add(rise, big.NewInt(1))
		run.Lsh(s.stretch, 1)
		run.Mul(run, s.v)
	}
	run.Mod(run, prime)
	line := new(big.Int).ModInverse(run, prime)
	line.Mul(line, rise)
	line.Mod(line, prime)
	u := new(big.Int).Mul(line, line)
	u.Mul(u, s.stretch)
	u.Sub(u, slope)
	u.Sub(u, s.u)
	u.Sub(u, other.u)
	u.Mod(u, prime)
	v := new(big.Int).Sub(s.u, u)
	v.Mul(v, line)
	v.Sub(v, s.v)
	return spot{u, v.Mod(v, prime), s.stretch}
}

// taken is the point added up that many times.
func (s spot) taken(times *big.Int) spot {
	sum := spot{stretch: s.stretch}
	for bit := times.BitLen() - 1; bit >= 0; bit-- {
		sum = sum.with(sum)
		if times.Bit(bit) == 1 {
			sum = sum.with(s)
		}
	}
	return sum
}

// cycle is how many times the point must be taken to be the one that adds nothing; nil, if no scalar brings another point to this one.
func (s spot) cycle() *big.Int {
	for _, times := range []*big.Int{order, twinOrder} {
		if s.taken(times).nothing() {
			return times
		}
	}
	return nil
}

// byRule is a scalar's number, with the bits that are set by rule.
func byRule(scalar []byte) *big.Int {
	n := great(scalar)
	for bit := range 3 {
		n.SetBit(n, bit, 0)
	}
	n.SetBit(n, 254, 1)
	return n.SetBit(n, 255, 0)
}

// byAdding is what Mul must answer, reckoned by adding up points.
func byAdding(scalar, point []byte) []byte {
	u := great(point)
	u.SetBit(u, 255, 0)
	u.Mod(u, prime)
	if u.Sign() == 0 {
		// Twice this point, and so all even times, is the one that adds nothing.
		return make([]byte, 32)
	}
	sum := spotAt(u).taken(byRule(scalar))
	if sum.nothing() {
		return make([]byte, 32)
	}
	return low(sum.u)
}

// added holds a Mul against adding up points.
func added(t *testing.T, what string, scalar, point []byte) {
	t.Helper()
	look(t, what, scalar, point, byAdding(scalar, point))
}
