package aead_test

import (
	"bytes"
	"math/rand"
	"slices"
	"testing"

	"strongroom/aead"
	"strongroom/api"
)

// sized is n bytes with room behind them for the rest of a right key, which is not to be read.
func sized(n int) []byte { return make([]byte, n, n+64) }

func TestWrongSizes(t *testing.T) {
	// Shorter than a sum, as long as one, and longer: a wrong key comes first whatever there is to open.
	texts := [][]byte{nil, {}, make([]byte, 1), make([]byte, 15), make([]byte, 16), make([]byte, 17), make([]byte, 100)}
	for _, n := range []int{0, 1, 12, 16, 31, 32, 33, 64} {
		for _, m := range []int{0, 1, 8, 11, 12, 13, 24, 32} {
			for _, b := range texts {
				if n != 32 || m != 12 {
					refused(t, sized(n), sized(m), b)
				}
			}
		}
	}
	for _, b := range texts {
		refused(t, nil, sized(12), b)
		refused(t, sized(32), nil, b)
		refused(t, nil, nil, b)
	}
}

// refused asks both calls, with a wrong key or nonce.
func refused(t *testing.T, key, nonce, b []byte) {
	t.Helper()
	for _, beside := range [][]byte{nil, {1}, make([]byte, 40)} {
		if x, why := aead.Seal(key, nonce, beside, b); why != api.ErrArg || len(x) != 0 {
			t.Errorf("P4.1: Seal of %d bytes, a key of %d and a nonce of %d: %v, %x", len(b), len(key), len(nonce), why, x)
		}
		if x, why := aead.Open(key, nonce, beside, b); why != api.ErrArg || len(x) != 0 {
			t.Errorf("P4.1: Open of %d bytes, a key of %d and a nonce of %d: %v, %x", len(b), len(key), len(nonce), why, x)
		}
	}
}

func TestOpenOfTooFew(t *testing.T) {
	key, nonce := unhex(t, sectionKey), unhex(t, sectionNonce)
	whole, _ := aead.Seal(key, nonce, nil, nil)
	for n := range 16 {
		// The rest of a right sum stands in the room behind.
		for i, b := range [][]byte{make([]byte, n), whole[:n], whole[16-n:]} {
			if x, why := aead.Open(key, nonce, nil, b); why != api.ErrEnd || len(x) != 0 {
				t.Errorf("P4.1: %d bytes, case %d: %v, %x", n, i, why, x)
			}
		}
	}
	if x, why := aead.Open(key, nonce, []byte("beside"), nil); why != api.ErrEnd || len(x) != 0 {
		t.Errorf("P4.1: nil: %v, %x", why, x)
	}
	if x, why := aead.Open(key, nonce, nil, make([]byte, 16)); why != api.ErrMac || len(x) != 0 {
		t.Errorf("P4.1: 16 noughts: %v, %x", why, x)
	}
	if x, why := aead.Open(key, nonce, nil, whole); why != api.OK || len(x) != 0 {
		t.Errorf("P4.1: 16 bytes that are right: %v, %x", why, x)
	}
}

// forged asks Open for something that was not sealed so.
func forged(t *testing.T, what string, key, nonce, beside, b []byte) {
	t.Helper()
	if x, why := aead.Open(key, nonce, beside, b); why != api.ErrMac || len(x) != 0 {
		t.Errorf("P4.1: %s, %d beside %d: %v, %x", what, len(beside), len(b), why, x)
	}
}

// turned goes through b with each of its bits turned, one at a time.
func turned(b []byte, look func(b []byte)) {
	for i := range 8 * len(b) {
		other := bytes.Clone(b)
		other[i/8] ^= 1 << (i % 8)
		look(other)
	}
}

func TestOpenOfOneBit(t *testing.T) {
	r := rand.New(rand.NewSource(4))
	for _, n := range []int{0, 1, 15, 16, 17, 63, 64, 65} {
		for _, m := range []int{0, 1, 16, 17, 65} {
			key, nonce, beside := someBytes(r, 32), someBytes(r, 12), someBytes(r, n)
			b, _ := aead.Seal(key, nonce, beside, someBytes(r, m))
			turned(b, func(other []byte) { forged(t, "a bit of the seal", key, nonce, beside, other) })
			turned(beside, func(other []byte) { forged(t, "a bit beside", key, nonce, other, b) })
			turned(nonce, func(other []byte) { forged(t, "a bit of the nonce", key, other, beside, b) })
			turned(key, func(other []byte) { forged(t, "a bit of the key", other, nonce, beside, b) })
		}
	}
}

// TestOpenOfNoughts: those that fill the pieces up are not those that were handed in.
func TestOpenOfNoughts(t *testing.T) {
	r := rand.New(rand.NewSource(5))
	for _, n := range lengths[:16] {
		for _, m := range []int{0, 1, 15, 16, 17, 65} {
			key, nonce, text := someBytes(r, 32), someBytes(r, 12), someBytes(r, m)
			beside := append(someBytes(r, n), make([]byte, 17)...)
			// Of these noughts, those up to from were beside at Seal, those up to to are at Open.
			for from := range 18 {
				b, _ := aead.Seal(key, nonce, beside[:n+from], text)
				for to := range 18 {
					if from != to {
						forged(t, "noughts beside", key, nonce, beside[:n+to], b)
					}
				}
			}
		}
	}
}

// TestOpenOfMovedBytes: where what is beside ends and what is hidden begins is seen.
func TestOpenOfMovedBytes(t *testing.T) {
	r := rand.New(rand.NewSource(6))
	for _, n := range []int{16, 32, 48} {
		key, nonce, beside := someBytes(r, 32), someBytes(r, 12), someBytes(r, n)
		b, _ := aead.Seal(key, nonce, beside, someBytes(r, 48))
		hidden, sum := b[:48], b[48:]
		for by := 1; by <= 48; by++ {
			forged(t, "bytes moved to beside", key, nonce, slices.Concat(beside, hidden[:by]), slices.Concat(hidden[by:], sum))
		}
		for by := 1; by <= n; by++ {
			forged(t, "bytes moved from beside", key, nonce, beside[:n-by], slices.Concat(beside[n-by:], hidden, sum))
		}
		if n == len(hidden) {
			forged(t, "both changed over", key, nonce, hidden, slices.Concat(beside, sum))
		}
	}
}

func TestOpenOfCut(t *testing.T) {
	r := rand.New(rand.NewSource(7))
	for _, m := range []int{0, 1, 15, 16, 17, 63, 64, 65, 129} {
		key, nonce, beside := someBytes(r, 32), someBytes(r, 12), someBytes(r, 20)
		b, _ := aead.Seal(key, nonce, beside, someBytes(r, m))
		for n := range len(b) {
			want := api.ErrMac
			if n < 16 {
				want = api.ErrEnd
			}
			if x, why := aead.Open(key, nonce, beside, b[:n]); why != want || len(x) != 0 {
				t.Errorf("P4.1: %d of %d bytes: %v, %x", n, len(b), why, x)
			}
			if n > 0 {
				forgedOrShort(t, key, nonce, beside, b[n:])
			}
		}
		for n := 1; n <= 33; n++ {
			forged(t, "more behind", key, nonce, beside, slices.Concat(b, make([]byte, n)))
			forged(t, "more ahead", key, nonce, beside, slices.Concat(make([]byte, n), b))
			// A nought behind what is hidden, ahead of the sum, is one that would fill the piece up.
			forged(t, "noughts hidden", key, nonce, beside, slices.Concat(b[:m], make([]byte, n), b[m:]))
		}
	}
}

// forgedOrShort asks Open for the end of a seal.
func forgedOrShort(t *testing.T, key, nonce, beside, b []byte) {
	t.Helper()
	want := api.ErrMac
	if len(b) < 16 {
		want = api.ErrEnd
	}
	if x, why := aead.Open(key, nonce, beside, b); why != want || len(x) != 0 {
		t.Errorf("P4.1: the last %d bytes: %v, %x", len(b), why, x)
	}
}

// TestOpenOfOthers: a seal opens with its own key, nonce and beside alone.
func TestOpenOfOthers(t *testing.T) {
	r := rand.New(rand.NewSource(8))
	keys, nonces, besides := [2][]byte{}, [2][]byte{}, [2][]byte{}
	for i := range 2 {
		keys[i], nonces[i], besides[i] = someBytes(r, 32), someBytes(r, 12), someBytes(r, 20)
	}
	b, _ := aead.Seal(keys[0], nonces[0], besides[0], []byte("text"))
	for n := range 8 {
		key, nonce, beside := keys[n&1], nonces[n>>1&1], besides[n>>2&1]
		if n > 0 {
			forged(t, "another seal", key, nonce, beside, b)
		} else if x, why := aead.Open(key, nonce, beside, b); why != api.OK || string(x) != "text" {
			t.Errorf("P4.2: %v, %q", why, x)
		}
	}
}
