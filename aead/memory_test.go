package aead_test

import (
	"bytes"
	"math/rand"
	"testing"

	"strongroom/aead"
	"strongroom/api"
)

// rooms keeps lists with room behind each of them that holds marks.
type rooms [][]byte

func (all *rooms) list(b []byte) []byte {
	room := append(bytes.Clone(b), bytes.Repeat([]byte{0xee}, 80)...)
	*all = append(*all, room)
	return room[:len(b)]
}

func (all *rooms) String() string { return string(bytes.Join(*all, nil)) }

// spoil changes all of an answer, its spare room too.
func spoil(b []byte) {
	b = b[:cap(b)]
	for i := range b {
		b[i] ^= 0xff
	}
}

// TestLeavesArguments goes through answers and refusals of both calls.
func TestLeavesArguments(t *testing.T) {
	r := rand.New(rand.NewSource(9))
	for _, size := range []int{0, 31, 32, 33} {
		for _, nonceSize := range []int{0, 11, 12, 13} {
			for _, n := range lengths[:18] {
				var all rooms
				key, nonce := all.list(someBytes(r, size)), all.list(someBytes(r, nonceSize))
				beside, b := all.list(someBytes(r, n)), all.list(someBytes(r, n))
				before := all.String()
				sealed, _ := aead.Seal(key, nonce, beside, b)
				shut := all.list(sealed)
				spoil(sealed)
				shown, _ := aead.Open(key, nonce, beside, shut)
				spoil(shown)
				// This one is refused: b was not sealed.
				shown, _ = aead.Open(key, nonce, beside, b)
				spoil(shown)
				all = all[:4]
				if all.String() != before {
					t.Errorf("R2: a key of %d, %d bytes: an argument was changed or shares the answer's memory", size, n)
				}
			}
		}
	}
}

func TestOpenLeavesSeal(t *testing.T) {
	r := rand.New(rand.NewSource(10))
	for _, n := range lengths {
		key, nonce, text := someBytes(r, 32), someBytes(r, 12), someBytes(r, n)
		sealed, _ := aead.Seal(key, nonce, nil, text)
		var all rooms
		b := all.list(sealed)
		before := all.String()
		shown, why := aead.Open(key, nonce, nil, b)
		if why != api.OK || !bytes.Equal(shown, text) {
			t.Errorf("R5: %d bytes: %v", n, why)
		}
		spoil(shown)
		if all.String() != before {
			t.Errorf("R2: %d bytes: the seal was changed or shares the answer's memory", n)
		}
	}
}

// TestReadsNoRoom: what stands behind the lists counts for nothing.
func TestReadsNoRoom(t *testing.T) {
	var all rooms
	key, nonce := all.list(unhex(t, sectionKey)), all.list(unhex(t, sectionNonce))
	beside, text := all.list(unhex(t, sectionBeside)), all.list([]byte(sectionText))
	sealed, why := aead.Seal(key, nonce, beside, text)
	if want := unhex(t, sectionHidden+sectionSum); why != api.OK || !bytes.Equal(sealed, want) {
		t.Errorf("R5: %v, %x", why, sealed)
	}
}

// TestOfOneList: what is handed in may lie in one list, and is still read as it was.
func TestOfOneList(t *testing.T) {
	all := someBytes(rand.New(rand.NewSource(11)), 120)
	before := string(all)
	sealed, why := aead.Seal(all[:32], all[20:32], all[10:90], all)
	if why != api.OK || !bytes.Equal(sealed, byHand(all[:32], all[20:32], all[10:90], all)) {
		t.Errorf("P4.1: %v", why)
	}
	if string(all) != before {
		t.Error("R2: an argument was changed")
	}
	before = string(sealed)
	// Key, nonce and beside lie in what is opened, which was not sealed by them.
	forged(t, "one list", sealed[:32], sealed[:12], sealed[5:40], sealed)
	if string(sealed) != before {
		t.Error("R2: an argument was changed")
	}
}

func TestIsNewMemory(t *testing.T) {
	key, nonce, beside := unhex(t, sectionKey), unhex(t, sectionNonce), unhex(t, sectionBeside)
	want := unhex(t, sectionHidden+sectionSum)
	x, _ := aead.Seal(key, nonce, beside, []byte(sectionText))
	y, _ := aead.Seal(key, nonce, beside, []byte(sectionText))
	spoil(x)
	if !bytes.Equal(y, want) {
		t.Error("R2: two answers of Seal share memory")
	}
	x, _ = aead.Open(key, nonce, beside, want)
	y, _ = aead.Open(key, nonce, beside, want)
	spoil(x)
	if string(y) != sectionText {
		t.Error("R2: two answers of Open share memory")
	}
	// What went ahead, a refusal too, is not kept.
	aead.Seal(key[:31], nonce, beside, []byte("refused"))
	aead.Open(key, nonce, beside, make([]byte, 77))
	if z, _ := aead.Seal(key, nonce, beside, []byte(sectionText)); !bytes.Equal(z, want) {
		t.Error("R4: an answer of Seal hangs on an earlier call")
	}
	if z, _ := aead.Open(key, nonce, beside, want); string(z) != sectionText {
		t.Error("R4: an answer of Open hangs on an earlier call")
	}
}
