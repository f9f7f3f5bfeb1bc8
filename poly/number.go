package poly

const (
	limbs    = 5
	limbBits = 26
	limbMask = 1<<limbBits - 1
	// fold is what 2^130 is worth modulo 2^130 - 5.
	fold = 5
)

// number is one modulo 2^130 - 5, in limbs of 26 bits, the lowest first. A limb may hold more than its bits till it is carried: products of limbs, five of them folded and added up, stay below 2^58.
type number [limbs]uint64

// numberOf is the number of at most 16 bytes, the lowest first.
func numberOf(b []byte) number {
	var n number
	for i, one := range b {
		n.putByte(i, one)
	}
	return n
}

// putByte puts one at the place of the number's byte i, where noughts are.
func (n *number) putByte(i int, one byte) {
	limb, shift := 8*i/limbBits, 8*i%limbBits
	wide := uint64(one) << shift
	n[limb] |= wide & limbMask
	if limb+1 < limbs {
		n[limb+1] |= wide >> limbBits
	}
}

// lowBytes is the lowest 16 bytes of a number whose limbs are carried.
func (n *number) lowBytes() []byte {
	b := make([]byte, sumSize)
	for i := range b {
		limb, shift := 8*i/limbBits, 8*i%limbBits
		wide := n[limb] >> shift
		if limb+1 < limbs {
			wide |= n[limb+1] << (limbBits - shift)
		}
		b[i] = byte(wide)
	}
	return b
}

func (n *number) add(m number) {
	for i := range n {
		n[i] += m[i]
	}
}

// carry leaves each limb its own bits alone and answers what goes out at the top, in units of 2^130.
func (n *number) carry() uint64 {
	var over uint64
	for i := range n {
		over += n[i]
		n[i] = over & limbMask
		over >>= limbBits
	}
	return over
}

// foldTop carries, and brings what goes out at the top in again at the bottom.
func (n *number) foldTop() {
	// On a line of its own: carry changes the limb that is added to.
	over := n.carry()
	n[0] += fold * over
}

// times is the product, below 2^130, with limbs that are carried but for the lowest, which may be up to 2^26 + 4.
func (n *number) times(m number) number {
	var product number
	for i := range n {
		for j := range m {
			if i+j < limbs {
				product[i+j] += n[i] * m[j]
			} else {
				product[i+j-limbs] += fold * n[i] * m[j]
			}
		}
	}
	// What the first carry brings to the lowest limb may be too much for it; the second one brings 1 at most, and then little is left below.
	product.foldTop()
	product.foldTop()
	return product
}

// reduce takes 2^130 - 5 away once, if the number, one that times or nothing made, is at least that.
func (n *number) reduce() {
	up := *n
	up[0] += fold
	// What goes out at the top of the number and 5 is 1 just where the number is at least 2^130 - 5; leaving it out behind the 5 is the taking away.
	over := up.carry()
	n[0] += fold * over
	n.carry()
}
