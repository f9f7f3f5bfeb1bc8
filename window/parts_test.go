package window_test

import (
	"math"
	"testing"

	"strongroom/api"
	"strongroom/window"
)

// top is the most bytes that may be left.
const top = 1<<32 - 1

// part is one part of a window, and the whole number that it is, if it may be this part of a right one.
type part struct {
	x     float64
	whole int64
	right bool
}

// rightParts are parts of right windows.
func rightParts(wholes ...int64) []part {
	var all []part
	for _, n := range wholes {
		all = append(all, part{float64(n), n, true})
	}
	return all
}

// wrongParts are parts of windows that are not right.
func wrongParts(numbers ...float64) []part {
	var all []part
	for _, x := range numbers {
		all = append(all, part{x: x})
	}
	return all
}

// noParts may be neither part: they are not whole, not numbers, infinite, below 0 or far too large.
func noParts() []part {
	return wrongParts(
		0.5, -0.5, 1.5, 100.25, 32767.5,
		math.SmallestNonzeroFloat64, -math.SmallestNonzeroFloat64, math.Nextafter(1, 0), math.Nextafter(1, 2), math.Nextafter(2, 3),
		-1, -2, -32768, -top, -top-1, math.MinInt64, -math.MaxFloat64,
		top+1, top+2, 1<<33, 1<<53, math.MaxInt64, 1<<64, 1<<64+4096, 1e300, math.MaxFloat64,
		math.NaN(), math.Copysign(math.NaN(), -1), math.Inf(1), math.Inf(-1),
	)
}

func firstParts() []part {
	all := append(rightParts(0, 1, 2, 5, 32768, 32769, 65536, 1<<31-1, 1<<31, top-1, top), noParts()...)
	all = append(all, part{math.Copysign(0, -1), 0, true})
	return append(all, wrongParts(top-1.5, top-0.5, top+0.5, math.Nextafter(top, 0), math.Nextafter(top, top+1))...)
}

func secondParts() []part {
	all := append(rightParts(1, 2, 3, 100, api.MaxData-1, api.MaxData), noParts()...)
	return append(all, wrongParts(0, math.Copysign(0, -1), api.MaxData-0.5, api.MaxData+0.5, math.Nextafter(api.MaxData, 0), math.Nextafter(api.MaxData, top), api.MaxData+1, 65536, top)...)
}

// eachWindow hands out every pair of a first and a second part, and what they are, if the window is right.
func eachWindow(look func(w complex128, left, most int64, right bool)) {
	for _, a := range firstParts() {
		for _, b := range secondParts() {
			look(complex(a.x, b.x), a.whole, b.whole, a.right && b.right)
		}
	}
}

// asItWas says whether two windows are the same by their bits: what is not a number is not equal to itself.
func asItWas(v, w complex128) bool {
	return math.Float64bits(real(v)) == math.Float64bits(real(w)) && math.Float64bits(imag(v)) == math.Float64bits(imag(w))
}

func TestOf(t *testing.T) {
	for _, c := range []struct {
		left, most int64
		want       complex128
	}{
		{5, 2, complex(5, 2)},
		{0, 1, complex(0, 1)},
		{0, 0, 0},
		{1, 0, complex(1, 0)},
		{1, -1, complex(1, -1)},
		{1, -5, complex(1, -5)},
		{-1, 1, complex(-1, 1)},
		{2, 5, complex(2, 5)},
		{top, api.MaxData - 1, complex(4294967295, 32767)},
		{top, api.MaxData, complex(4294967295, 32768)},
		{top, api.MaxData + 1, complex(4294967295, 32768)},
		{top + 1, api.MaxData, complex(4294967296, 32768)},
		{7, 65536, complex(7, 32768)},
		{7, top, complex(7, 32768)},
		{7, top + 1, complex(7, 32768)},
		{7, math.MaxInt64, complex(7, 32768)},
		{1 << 52, 9, complex(4503599627370496, 9)},
		{math.MaxInt64, 9, complex(9223372036854775808, 9)},
		{math.MinInt64, 9, complex(-9223372036854775808, 9)},
		{9, math.MinInt64, complex(9, -9223372036854775808)},
	} {
		if got := window.Of(c.left, c.most); got != c.want {
			t.Errorf("P7.1: Of(%d, %d) is %v, want %v", c.left, c.most, got, c.want)
		}
	}
}

// TestOfIsRight: which numbers make a window that is right; one that is too large does not come round to a small one.
func TestOfIsRight(t *testing.T) {
	numbers := []int64{math.MinInt64, -1 << 32, -1 << 31, -2, -1, 0, 1, 2, api.MaxData, api.MaxData + 1, 1 << 31, top - 1, top, top + 1, top + 2, 1 << 33, 1<<53 + 1, 1 << 62, math.MaxInt64 - top, math.MaxInt64}
	for _, left := range numbers {
		for _, most := range numbers {
			w := window.Of(left, most)
			want := left >= 0 && left <= top && most >= 1
			if window.Right(w) != want {
				t.Errorf("P7.1: Of(%d, %d) is right: %v", left, most, !want)
			}
			var wantLeft, wantMost int64
			if want {
				wantLeft, wantMost = left, min(most, api.MaxData)
			}
			if window.Left(w) != wantLeft || window.Most(w) != wantMost {
				t.Errorf("P7.1: Of(%d, %d): %d left, %d in one packet", left, most, window.Left(w), window.Most(w))
			}
		}
	}
}

func TestRight(t *testing.T) {
	eachWindow(func(w complex128, _, _ int64, right bool) {
		if window.Right(w) != right {
			t.Errorf("P7.1: %v is right: %v", w, !right)
		}
	})
}

// TestRightOfExamples has the chapter's, and what is told above by tables spelt out once.
func TestRightOfExamples(t *testing.T) {
	for _, w := range []complex128{complex(0, 1), complex(1, 1), complex(5, 2), complex(4294967295, 1), complex(0, 32768), complex(4294967295, 32768)} {
		if !window.Right(w) {
			t.Errorf("P7.1: %v is not right", w)
		}
	}
	nan, inf := math.NaN(), math.Inf(1)
	for _, w := range []complex128{
		window.Of(1, 0), 0, complex(1, 0), complex(1, -1), complex(1, 32769), complex(1, 1.5),
		complex(-1, 1), complex(4294967296, 1), complex(0.5, 1), complex(4294967294.5, 1),
		complex(nan, 1), complex(1, nan), complex(nan, nan), complex(inf, 1), complex(1, inf), complex(-inf, 1), complex(1, -inf), complex(inf, inf),
	} {
		if window.Right(w) {
			t.Errorf("P7.1: %v is right", w)
		}
	}
}

func TestLeft(t *testing.T) {
	eachWindow(func(w complex128, left, _ int64, right bool) {
		if !right {
			left = 0
		}
		if got := window.Left(w); got != left {
			t.Errorf("P7.1: Left(%v) is %d, want %d", w, got, left)
		}
	})
}

func TestMost(t *testing.T) {
	eachWindow(func(w complex128, _, most int64, right bool) {
		if !right {
			most = 0
		}
		if got := window.Most(w); got != most {
			t.Errorf("P7.1: Most(%v) is %d, want %d", w, got, most)
		}
	})
}
