package window_test

import (
	"math"
	"math/rand"
	"testing"

	"strongroom/api"
	"strongroom/window"
)

// counts are those that Take and Add are asked for: the ends of numbers, and what is around the ends of a window with so many bytes left.
func counts(left int64) []int64 {
	return []int64{
		math.MinInt64, math.MinInt64 + 1, math.MinInt64 + left, -1 << 53, -1 << 32, -top, -left - 1, -left, -2, -1,
		0, 1, 2, left - 1, left, left + 1, left + 2, top - left - 1, top - left, top - left + 1, top - left + 2,
		top - 1, top, top + 1, top + 2, 1 << 33, 1<<53 + 1, math.MaxInt64 - top, math.MaxInt64 - left, math.MaxInt64 - 1, math.MaxInt64,
	}
}

// mustBe holds what a call answered against the window with so many bytes left, or against false, if there is none.
func mustBe(t *testing.T, name string, w complex128, n int64, got complex128, ok bool, left, most int64, may bool) {
	t.Helper()
	want := complex128(0)
	if may {
		want = complex(float64(left), float64(most))
	}
	if ok != may || got != want {
		t.Errorf("P7.1: %s(%v, %d): %v, %v, want %v, %v", name, w, n, got, ok, want, may)
	}
}

func TestTake(t *testing.T) {
	eachWindow(func(w complex128, left, most int64, right bool) {
		for _, n := range counts(left) {
			got, ok := window.Take(w, n)
			mustBe(t, "Take", w, n, got, ok, left-n, most, right && n >= 0 && n <= left)
		}
	})
}

func TestAdd(t *testing.T) {
	eachWindow(func(w complex128, left, most int64, right bool) {
		for _, n := range counts(left) {
			got, ok := window.Add(w, n)
			mustBe(t, "Add", w, n, got, ok, left+n, most, right && n >= 0 && n <= top-left)
		}
	})
}

func TestTakeOfExamples(t *testing.T) {
	for _, c := range []struct {
		w    complex128
		n    int64
		want complex128
		ok   bool
	}{
		{complex(5, 2), 0, complex(5, 2), true},
		{complex(5, 2), 1, complex(4, 2), true},
		{complex(5, 2), 5, complex(0, 2), true},
		{complex(5, 2), 6, 0, false},
		{complex(5, 2), -1, 0, false},
		{complex(0, 1), 0, complex(0, 1), true},
		{complex(0, 1), 1, 0, false},
		{complex(4294967295, 32768), 4294967295, complex(0, 32768), true},
		{complex(4294967295, 32768), 4294967296, 0, false},
		{complex(4294967295, 32768), -1, 0, false},
		{complex(4294967296, 1), 1, 0, false},
		{complex(5, 0), 1, 0, false},
		{complex(5.5, 1), 1, 0, false},
		{complex(-1, 1), 0, 0, false},
		{complex(math.Inf(1), 1), 1, 0, false},
		{complex(5, math.NaN()), 1, 0, false},
	} {
		if got, ok := window.Take(c.w, c.n); got != c.want || ok != c.ok {
			t.Errorf("P7.1: Take(%v, %d): %v, %v, want %v, %v", c.w, c.n, got, ok, c.want, c.ok)
		}
	}
}

func TestAddOfExamples(t *testing.T) {
	for _, c := range []struct {
		w    complex128
		n    int64
		want complex128
		ok   bool
	}{
		{complex(5, 2), 0, complex(5, 2), true},
		{complex(5, 2), 1, complex(6, 2), true},
		{complex(5, 2), -1, 0, false},
		{complex(0, 1), 4294967295, complex(4294967295, 1), true},
		{complex(0, 1), 4294967296, 0, false},
		{complex(1, 1), 4294967294, complex(4294967295, 1), true},
		{complex(1, 1), 4294967295, 0, false},
		{complex(4294967295, 32768), 0, complex(4294967295, 32768), true},
		{complex(4294967295, 32768), 1, 0, false},
		{complex(4294967295, 32768), -1, 0, false},
		{complex(5, 2), math.MaxInt64, 0, false},
		{complex(-1, 1), 1, 0, false},
		{complex(5, 32769), 1, 0, false},
		{complex(0.5, 1), 1, 0, false},
		{complex(math.NaN(), 1), 1, 0, false},
		{complex(math.Inf(-1), 1), 1, 0, false},
	} {
		if got, ok := window.Add(c.w, c.n); got != c.want || ok != c.ok {
			t.Errorf("P7.1: Add(%v, %d): %v, %v, want %v, %v", c.w, c.n, got, ok, c.want, c.ok)
		}
	}
}

// TestTakeAndAddOfMany walks one window up and down beside a whole number: nothing is lost on the way, and a refusal leaves all as it was.
func TestTakeAndAddOfMany(t *testing.T) {
	r := rand.New(rand.NewSource(7))
	for _, most := range []int64{1, 2, 1000, api.MaxData} {
		left := r.Int63n(top + 1)
		w := window.Of(left, most)
		for range 20000 {
			n := r.Int63n(1<<uint(1+r.Intn(33))) - 2
			call, name, next := window.Take, "Take", left-n
			if r.Intn(2) == 0 {
				call, name, next = window.Add, "Add", left+n
			}
			got, ok := call(w, n)
			may := n >= 0 && next >= 0 && next <= top
			mustBe(t, name, w, n, got, ok, next, most, may)
			if may {
				w, left = got, next
			}
			if window.Left(w) != left || window.Most(w) != most {
				t.Fatalf("P7.1: behind %s of %d: %v, want %d left of %d", name, n, w, left, most)
			}
		}
	}
}
