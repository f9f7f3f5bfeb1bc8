package poly_test

import (
	"bytes"
	"encoding/hex"
	"math/rand"
	"testing"

	"strongroom/api"
	"strongroom/poly"
)

// withSpare is b with room behind it that holds marks.
func withSpare(b []byte) (list, room []byte) {
	room = append(bytes.Clone(b), bytes.Repeat([]byte{0xee}, 80)...)
	return room[:len(b)], room
}

// spoil changes all of an answer, its spare room too.
func spoil(b []byte) {
	b = b[:cap(b)]
	for i := range b {
		b[i] ^= 0xff
	}
}

func TestSumLeavesArguments(t *testing.T) {
	r := rand.New(rand.NewSource(6))
	for _, size := range []int{0, 31, 32, 33} {
		for _, n := range lengths {
			key, keyRoom := withSpare(bytes.Repeat([]byte{0xff}, size))
			b, room := withSpare(someBytes(r, n))
			before := string(keyRoom) + string(room)
			got, _ := poly.Sum(key, b)
			spoil(got)
			if string(keyRoom)+string(room) != before {
				t.Errorf("R2: a key of %d, %d bytes: an argument was changed or shares the answer's memory", size, n)
			}
		}
	}
}

// TestSumReadsNoRoom: what stands behind the lists counts for nothing.
func TestSumReadsNoRoom(t *testing.T) {
	key, _ := withSpare(unhex(t, sectionKey))
	b, _ := withSpare([]byte(sectionText))
	got, why := poly.Sum(key, b)
	if why != api.OK || hex.EncodeToString(got) != sectionSum {
		t.Errorf("R5: %v, %x", why, got)
	}
}

// TestSumOfOneList: what is handed in may lie in one list, and is still read as it was.
func TestSumOfOneList(t *testing.T) {
	all := someBytes(rand.New(rand.NewSource(7)), 100)
	before := string(all)
	look(t, "one list", all[:32], all)
	look(t, "one list", all[10:42], all[5:30])
	if string(all) != before {
		t.Error("R2: an argument was changed")
	}
}

func TestSumIsNewMemory(t *testing.T) {
	key := unhex(t, sectionKey)
	x, _ := poly.Sum(key, []byte(sectionText))
	y, _ := poly.Sum(key, []byte(sectionText))
	spoil(x)
	if hex.EncodeToString(y) != sectionSum {
		t.Error("R2: two answers share memory")
	}
	if z, _ := poly.Sum(key, []byte(sectionText)); hex.EncodeToString(z) != sectionSum {
		t.Error("R2: an answer that was changed changes a later one")
	}
	// What went ahead, a refusal too, is not kept.
	poly.Sum(key[:31], []byte("refused"))
	poly.Sum(bytes.Repeat([]byte{0xff}, 32), bytes.Repeat([]byte{0xff}, 77))
	if z, _ := poly.Sum(key, []byte(sectionText)); hex.EncodeToString(z) != sectionSum {
		t.Error("R4: an answer hangs on an earlier call")
	}
}
