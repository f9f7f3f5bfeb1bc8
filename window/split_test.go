package window_test

import (
	"math"
	"math/rand"
	"slices"
	"testing"

	"strongroom/api"
	"strongroom/window"
)

// sentByBytes is how n bytes go, one byte after the other: into the last packet, or into a new one, if that is full.
func sentByBytes(left, most, n int64) ([]int64, int64) {
	var packets []int64
	for ; n > 0 && left > 0; n-- {
		if len(packets) == 0 || packets[len(packets)-1] == most {
			packets = append(packets, 0)
		}
		packets[len(packets)-1]++
		left--
	}
	return packets, left
}

// mustSplit holds an answer of Split against the packets and the bytes left that must be.
func mustSplit(t *testing.T, left, most, n int64, want []int64, wantLeft int64) {
	t.Helper()
	packets, behind := window.Split(complex(float64(left), float64(most)), n)
	if !slices.Equal(packets, want) || behind != complex(float64(wantLeft), float64(most)) {
		t.Errorf("P7.2: Split of %d from a window of %d and %d: %v, %v, want %v, %d left", n, left, most, packets, behind, want, wantLeft)
	}
}

func TestSplitOfExamples(t *testing.T) {
	if packets, behind := window.Split(window.Of(5, 2), 9); !slices.Equal(packets, []int64{2, 2, 1}) || behind != complex(0, 2) {
		t.Errorf("P7.2: the chapter's run: %v, %v", packets, behind)
	}
	for _, c := range []struct {
		left, most, n int64
		want          []int64
		wantLeft      int64
	}{
		{5, 2, 1, []int64{1}, 4},
		{5, 2, 2, []int64{2}, 3},
		{5, 2, 3, []int64{2, 1}, 2},
		{5, 2, 4, []int64{2, 2}, 1},
		{5, 2, 5, []int64{2, 2, 1}, 0},
		{5, 2, 6, []int64{2, 2, 1}, 0},
		{6, 2, 6, []int64{2, 2, 2}, 0},
		{6, 2, 7, []int64{2, 2, 2}, 0},
		{7, 2, 6, []int64{2, 2, 2}, 1},
		{3, 1, 2, []int64{1, 1}, 1},
		{1, 1, 1, []int64{1}, 0},
		{1, 32768, math.MaxInt64, []int64{1}, 0},
		{0, 1, 1, nil, 0},
		{0, 32768, math.MaxInt64, nil, 0},
		{65536, 32768, 32767, []int64{32767}, 32769},
		{65536, 32768, 32768, []int64{32768}, 32768},
		{65536, 32768, 32769, []int64{32768, 1}, 32767},
		{65536, 32768, 65535, []int64{32768, 32767}, 1},
		{65536, 32768, 65536, []int64{32768, 32768}, 0},
		{65536, 32768, 65537, []int64{32768, 32768}, 0},
		{65537, 32768, 70000, []int64{32768, 32768, 1}, 0},
		{top, 32768, 1, []int64{1}, top - 1},
		{top, 32768, 40000, []int64{32768, 7232}, top - 40000},
	} {
		mustSplit(t, c.left, c.most, c.n, c.want, c.wantLeft)
	}
}

// TestSplitOfSmall goes through all small windows and numbers.
func TestSplitOfSmall(t *testing.T) {
	for left := range int64(26) {
		for most := int64(1); most <= 14; most++ {
			for n := int64(-3); n <= 30; n++ {
				want, wantLeft := sentByBytes(left, most, n)
				mustSplit(t, left, most, n, want, wantLeft)
			}
		}
	}
}

// looksSplit says what the document says of every answer, without reckoning the packets first.
func looksSplit(t *testing.T, w complex128, n int64) {
	t.Helper()
	packets, behind := window.Split(w, n)
	sent := int64(0)
	for i, size := range packets {
		sent += size
		last := i == len(packets)-1
		if size < 1 || size > window.Most(w) || !last && size != window.Most(w) {
			t.Fatalf("P7.2: Split(%v, %d): packet %d of %d has %d bytes", w, n, i, len(packets), size)
		}
	}
	if sent != min(n, window.Left(w)) {
		t.Errorf("P7.2: Split(%v, %d): %d bytes are sent", w, n, sent)
	}
	if behind != complex(real(w)-float64(sent), imag(w)) {
		t.Errorf("P7.2: Split(%v, %d): %d bytes are sent, and %v is behind", w, n, sent, behind)
	}
}

func TestSplitOfMany(t *testing.T) {
	r := rand.New(rand.NewSource(8))
	for range 3000 {
		most := 1 + r.Int63n(api.MaxData)
		left := r.Int63n(min(top, 40*most) + 1)
		w := window.Of(left, most)
		for _, n := range []int64{1, most - 1, most, most + 1, 2*most - 1, 2 * most, 2*most + 1, left - 1, left, left + 1, 1 + r.Int63n(50*most), top, top + 1, math.MaxInt64} {
			if n >= 1 {
				looksSplit(t, w, n)
			}
		}
	}
}

// TestSplitOfTheLargest: windows with as many bytes left as may be.
func TestSplitOfTheLargest(t *testing.T) {
	for _, left := range []int64{top - 1, top} {
		for _, most := range []int64{10000, api.MaxData - 1, api.MaxData} {
			for _, n := range []int64{1, most, most + 1, left - most, left - 1, left, left + 1, top, top + 1, math.MaxInt64} {
				looksSplit(t, window.Of(left, most), n)
			}
		}
	}
	packets, behind := window.Split(complex(4294967295, 32768), math.MaxInt64)
	if len(packets) != 131072 || packets[0] != 32768 || packets[131070] != 32768 || packets[131071] != 32767 || behind != complex(0, 32768) {
		t.Errorf("P7.2: the largest window: %d packets, %v", len(packets), behind)
	}
	packets, behind = window.Split(complex(4294967295, 1), 100000)
	if len(packets) != 100000 || packets[0] != 1 || packets[99999] != 1 || behind != complex(4294867295, 1) {
		t.Errorf("P7.2: packets of one byte: %d, %v", len(packets), behind)
	}
}

// TestSplitOfNothing: without bytes there are no packets, and every window comes back as it was.
func TestSplitOfNothing(t *testing.T) {
	eachWindow(func(w complex128, _, _ int64, _ bool) {
		for _, n := range []int64{0, -1, -2, -api.MaxData, -top, -top - 1, math.MinInt64 + 1, math.MinInt64} {
			if packets, behind := window.Split(w, n); len(packets) != 0 || !asItWas(behind, w) {
				t.Errorf("P7.2: Split(%v, %d): %v, %v", w, n, packets, behind)
			}
		}
	})
}

// TestSplitOfWrongWindows: a window that is not right comes back as it was, with no packets.
func TestSplitOfWrongWindows(t *testing.T) {
	eachWindow(func(w complex128, _, _ int64, right bool) {
		if right {
			return
		}
		for _, n := range []int64{1, 2, api.MaxData, top, top + 1, math.MaxInt64} {
			if packets, behind := window.Split(w, n); len(packets) != 0 || !asItWas(behind, w) {
				t.Errorf("P7.2: Split(%v, %d): %v, %v", w, n, packets, behind)
			}
		}
	})
}

// TestSplitInPieces: calls that each go on with the window behind the one ahead send together just what was left.
func TestSplitInPieces(t *testing.T) {
	r := rand.New(rand.NewSource(9))
	for range 300 {
		most := 1 + r.Int63n(50)
		left := r.Int63n(2000)
		w := window.Of(left, most)
		for left > 0 {
			n := 1 + r.Int63n(300)
			var packets []int64
			packets, w = window.Split(w, n)
			for _, size := range packets {
				left -= size
			}
			if len(packets) == 0 || window.Left(w) != left || window.Most(w) != most {
				t.Fatalf("P7.2: behind %d bytes in %d packets: %v, want %d left of %d", n, len(packets), w, left, most)
			}
		}
		if packets, behind := window.Split(w, 1); len(packets) != 0 || behind != w {
			t.Errorf("P7.2: at its end: %v, %v", packets, behind)
		}
	}
}

// TestSplitBeyondTheBound: more packets than an answer may have items are none, and the call ends.
func TestSplitBeyondTheBound(t *testing.T) {
	for _, c := range []struct{ left, most, n int64 }{
		{1 << 31, 1, 1 << 31},
		{top, 1, 1 << 31},
		{top, 1, top},
		{top, 1, math.MaxInt64},
	} {
		w := window.Of(c.left, c.most)
		if packets, behind := window.Split(w, c.n); len(packets) != 0 || behind != w {
			t.Errorf("R6: Split(%v, %d): %d packets, %v", w, c.n, len(packets), behind)
		}
	}
}

// TestSplitIsNewMemory: an answer shares none with another one, its spare room included, nor with what is kept.
func TestSplitIsNewMemory(t *testing.T) {
	for _, n := range []int64{1, 2, 9, 10, 11, 1000} {
		w := window.Of(900, 10)
		want, _ := sentByBytes(900, 10, n)
		first, _ := window.Split(w, n)
		second, _ := window.Split(w, n)
		first = first[:cap(first)]
		for i := range first {
			first[i] = -1
		}
		third, _ := window.Split(w, n)
		if !slices.Equal(second, want) || !slices.Equal(third, want) {
			t.Errorf("R2: Split of %d: %v and %v, behind a change of an answer", n, second, third)
		}
	}
}
