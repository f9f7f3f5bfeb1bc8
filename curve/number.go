package curve

import (
	"math/bits"
)

const (
	limbs    = 5
	limbBits = 51
	limbMask = 1<<limbBits - 1
	// fold is what 2^255 is worth modulo 2^255 - 19.
	fold = 19
	// highestBit is that of 2^255 - 21.
	highestBit = 254
)

// number is one modulo 2^255 - 19, in limbs of 51 bits, the lowest first. Between two reckonings each limb holds its own bits alone, but for the lowest, which may be up to 2^51 + 37.
type number [limbs]uint64

// twicePrime is added ahead of taking away, so that no limb falls below nought.
var twicePrime = number{2 * (limbMask + 1 - fold), 2 * limbMask, 2 * limbMask, 2 * limbMask, 2 * limbMask}

// numberOf is the number of 32 bytes, the lowest first. Their top bit is passed by: the limbs have no place for it.
func numberOf(b []byte) number {
	var n number
	for i, one := range b {
		limb, shift := 8*i/limbBits, 8*i%limbBits
		wide := uint64(one) << shift
		n[limb] |= wide & limbMask
		if limb+1 < limbs {
			n[limb+1] |= wide >> limbBits
		}
	}
	return n
}

// bytes is the 32 bytes of the number, the lowest first.
func (n *number) bytes() []byte {
	n.reduce()
	b := make([]byte, size)
	for i := range b {
		limb, shift := 8*i/limbBits, 8*i%limbBits
		wide := n[limb] >> shift
		if limb+1 < limbs {
			wide |= n[limb+1] << (limbBits - shift)
		}
		b[i] = byte(wide)
	}
	return b
}

// carry leaves each limb its own bits alone and answers what goes out at the top, in units of 2^255.
func (n *number) carry() uint64 {
	var over uint64
	for i := range n {
		over += n[i]
		n[i] = over & limbMask
		over >>= limbBits
	}
	return over
}

// foldTop carries, and brings what goes out at the top in again at the bottom.
func (n *number) foldTop() {
	// On a line of its own: carry changes the limb that is added to.
	over := n.carry()
	n[0] += fold * over
}

// reduce makes the number, which is below twice 2^255 - 19, the one below 2^255 - 19 that is worth the same.
func (n *number) reduce() {
	up := *n
	up[0] += fold
	// What goes out at the top of the number and 19 is 1 just where the number is at least 2^255 - 19; leaving it out behind the 19 is the taking away.
	over := up.carry()
	n[0] += fold * over
	n.carry()
}

func plus(x, y number) number {
	for i := range x {
		x[i] += y[i]
	}
	x.foldTop()
	return x
}

func minus(x, y number) number {
	for i := range x {
		x[i] += twicePrime[i] - y[i]
	}
	x.foldTop()
	return x
}

func times(x, y number) number {
	var product number
	var over uint64
	for at := range product {
		sum := wideSum{low: over}
		for i := range x {
			if i <= at {
				sum.addProduct(x[i], y[at-i])
			} else {
				sum.addProduct(x[i], fold*y[at+limbs-i])
			}
		}
		product[at] = sum.low & limbMask
		over = sum.high<<(64-limbBits) | sum.low>>limbBits
	}
	// In the top limb's sum nothing is folded, so that what goes out of it is below 2^54.
	product[0] += fold * over
	product.foldTop()
	return product
}

// inverse is what times x is 1; of 0 it is 0. It is the power of 2^255 - 21, as Fermat has it.
func inverse(x number) number {
	power := x
	for bit := highestBit - 1; bit >= 0; bit-- {
		power = times(power, power)
		// All bits of 2^255 - 21 are set but these two.
		if bit != 2 && bit != 4 {
			power = times(power, x)
		}
	}
	return power
}

// wideSum is a sum of products of limbs. Five of them, four folded, and what the sum below left over stay below 2^109.
type wideSum struct{ high, low uint64 }

func (w *wideSum) addProduct(x, y uint64) {
	high, low := bits.Mul64(x, y)
	sum, over := bits.Add64(w.low, low, 0)
	w.low = sum
	w.high += high + over
}
