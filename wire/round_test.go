package wire_test

import (
	"bytes"
	"math"
	"math/rand"
	"slices"
	"strings"
	"testing"

	"strongroom/api"
	"strongroom/wire"
)

// rightNames makes a list of names that a name-list may hold.
func rightNames(x *rand.Rand) []string {
	var l []string
	room := api.MaxNames
	for range x.Intn(20) {
		b := make([]byte, 1+x.Intn(64))
		for i := range b {
			b[i] = byte(33 + x.Intn(94))
			if b[i] == ',' {
				b[i] = '.'
			}
		}
		if room -= len(b) + 1; room < 0 {
			break
		}
		l = append(l, string(b))
	}
	return l
}

func someBytes(x *rand.Rand, most int) []byte {
	b := make([]byte, x.Intn(most+1))
	x.Read(b)
	for i := range b { // noughts and top bits often
		switch x.Intn(4) {
		case 0:
			b[i] = 0
		case 1:
			b[i] |= 0x80
		}
	}
	return b
}

// writeOne writes one thing and answers what must read it.
func writeOne(t *testing.T, x *rand.Rand, w *wire.Writer) func(r *wire.Reader) bool {
	t.Helper()
	n, b := x.Uint64(), someBytes(x, 12)
	switch x.Intn(8) {
	case 0:
		w.Byte(int(n))
		return func(r *wire.Reader) bool { return r.Byte() == int(n&0xff) }
	case 1:
		w.Bool(n&1 == 1)
		return func(r *wire.Reader) bool { return r.Bool() == (n&1 == 1) }
	case 2:
		w.U32(uint32(n))
		return func(r *wire.Reader) bool { return r.U32() == uint32(n) }
	case 3:
		w.U64(n)
		return func(r *wire.Reader) bool { return r.U64() == n }
	case 4:
		w.Text(string(b))
		return func(r *wire.Reader) bool { return r.Text(len(b)) == string(b) }
	case 5:
		w.Mpint(b)
		return func(r *wire.Reader) bool { return bytes.Equal(r.Mpint(len(b)+1), bytes.TrimLeft(b, "\x00")) }
	case 6:
		l := rightNames(x)
		w.Names(l)
		return func(r *wire.Reader) bool { return slices.Equal(r.Names(), l) }
	}
	w.Raw(b)
	return func(r *wire.Reader) bool { return bytes.Equal(r.Raw(len(b)), b) }
}

func TestWrittenIsRead(t *testing.T) {
	x := rand.New(rand.NewSource(11))
	for range 3000 {
		w := wire.NewWriter()
		var reads []func(r *wire.Reader) bool
		for range x.Intn(9) {
			reads = append(reads, writeOne(t, x, w))
		}
		b := w.Done()
		r := wire.NewReader(b)
		for i, read := range reads {
			if !read(r) {
				t.Fatalf("P1.3: thing %d of %x is not read", i, b)
			}
		}
		if why, place := r.End(); why != api.OK || place != 0 {
			t.Fatalf("P1.3: %x: %d at %d", b, why, place)
		}
	}
}

func TestWrittenEdgesAreRead(t *testing.T) {
	w := wire.NewWriter()
	long := strings.Repeat("long", 1<<20)
	names := []string{strings.Repeat("!", 64), "~", strings.Repeat("-", 64)}
	w.Text(long)
	w.U64(math.MaxUint64)
	w.U32(math.MaxUint32)
	w.Mpint([]byte(long))
	w.Mpint([]byte("\xff" + long))
	w.Names(names)
	w.Names(nil)
	r := wire.NewReader(w.Done())
	ok := r.Text(len(long)) == long && r.U64() == math.MaxUint64 && r.U32() == math.MaxUint32
	ok = ok && string(r.Mpint(len(long))) == long && string(r.Mpint(len(long)+2)) == "\xff"+long
	ok = ok && slices.Equal(r.Names(), names) && len(r.Names()) == 0
	if why, _ := r.End(); !ok || why != api.OK {
		t.Errorf("P1.3: refusal %d", why)
	}
}

// readAny makes one call with any argument.
func readAny(x *rand.Rand, r *wire.Reader) {
	n := x.Intn(12) - 2
	switch x.Intn(12) {
	case 0:
		n = math.MaxInt
	case 1:
		n = math.MinInt
	}
	switch x.Intn(9) {
	case 0:
		r.Byte()
	case 1:
		r.Bool()
	case 2:
		r.U32()
	case 3:
		r.U64()
	case 4:
		r.Text(n)
	case 5:
		r.Mpint(n)
	case 6:
		r.Names()
	case 7:
		r.Raw(n)
	case 8:
		r.Rest()
	}
}

// TestAnyBytes reads whatever bytes by whatever calls: none panics, and places only go on.
func TestAnyBytes(t *testing.T) {
	x := rand.New(rand.NewSource(12))
	for range 20000 {
		b := someBytes(x, 24)
		for i := 0; i+4 < len(b); i += 5 { // small lengths, else hardly a Text is whole
			copy(b[i:], []byte{0, 0, 0, byte(x.Intn(6))})
		}
		r := wire.NewReader(b)
		for range 8 {
			left := r.Left()
			why, place := r.End()
			readAny(x, r)
			nextWhy, nextPlace := r.End()
			if r.Left() > left || nextPlace > len(b) || nextPlace < 0 {
				t.Fatalf("P1.2: %x: left %d behind %d, place %d", b, r.Left(), left, nextPlace)
			}
			if why != api.OK && why != api.ErrTail && (nextWhy != why || nextPlace != place) {
				t.Fatalf("P1.2: %x: %d at %d became %d at %d", b, why, place, nextWhy, nextPlace)
			}
		}
	}
}
