package curve

const (
	// topBit is the highest of a scalar's bits that may be set.
	topBit = 254
	// quarter is (A - 2) / 4, where A is the 486662 of the curve's rule.
	quarter = 121665
)

// ratio is a point by its first coordinate, as x divided by z: only the ladder's end needs to divide. Where z is nought, it is the point that adds nothing.
type ratio struct{ x, z number }

// climb is the first coordinate of the point at u, taken scalar times. Of the point that adds nothing it is 0.
func climb(scalar [size]byte, u number) number {
	// Of the two, upper is always one point more than lower; each step doubles one of them and adds both.
	lower, upper := ratio{x: number{1}}, ratio{x: u, z: number{1}}
	var swapped uint64
	for at := topBit; at >= 0; at-- {
		bit := uint64(scalar[at/8]>>(at%8)) & 1
		swap(&lower, &upper, swapped^bit)
		swapped = bit
		lower, upper = step(lower, upper, u)
	}
	swap(&lower, &upper, swapped)
	return times(lower.x, inverse(lower.z))
}

// step is the first point doubled, and the sum of both, of which the difference is the point at u.
func step(first, second ratio, u number) (doubled, sum ratio) {
	firstPlus, firstMinus := plus(first.x, first.z), minus(first.x, first.z)
	secondPlus, secondMinus := plus(second.x, second.z), minus(second.x, second.z)

	plusSquare, minusSquare := times(firstPlus, firstPlus), times(firstMinus, firstMinus)
	apart := minus(plusSquare, minusSquare)
	doubled.x = times(plusSquare, minusSquare)
	doubled.z = times(apart, plus(plusSquare, times(number{quarter}, apart)))

	one, other := times(secondMinus, firstPlus), times(secondPlus, firstMinus)
	together, between := plus(one, other), minus(one, other)
	sum.x = times(together, together)
	sum.z = times(u, times(between, between))
	return doubled, sum
}

// swap changes the two points over, if bit is 1.
func swap(first, second *ratio, bit uint64) {
	// The same is done for both bits, so that the time doesn't tell of the scalar.
	mask := -bit
	for i := range limbs {
		x := mask & (first.x[i] ^ second.x[i])
		first.x[i] ^= x
		second.x[i] ^= x
		z := mask & (first.z[i] ^ second.z[i])
		first.z[i] ^= z
		second.z[i] ^= z
	}
}
