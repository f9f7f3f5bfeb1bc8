package kdf_test

import (
	"bytes"
	"encoding/hex"
	"math/rand"
	"testing"

	"strongroom/kdf"
)

// rooms keeps lists with room behind each of them that holds marks.
type rooms [][]byte

func (all *rooms) list(b []byte) []byte {
	room := append(bytes.Clone(b), bytes.Repeat([]byte{0xee}, 300)...)
	*all = append(*all, room)
	return room[:len(b)]
}

func (all *rooms) String() string { return string(bytes.Join(*all, nil)) }

// spoil changes all of an answer, its spare room too.
func spoil(b []byte) {
	b = b[:cap(b)]
	for i := range b {
		b[i] ^= 0xff
	}
}

// edges are lengths at and around the ends of blocks and sums.
var edges = []int{0, 1, 31, 32, 33, 55, 56, 63, 64, 65, 119, 120, 128, 130}

// TestLeavesArguments goes through all calls, refusals too.
func TestLeavesArguments(t *testing.T) {
	r := rand.New(rand.NewSource(12))
	for _, n := range edges {
		for _, size := range []int{-1, 0, 1, 31, 32, 33, 64, 255, 256, 257} {
			var all rooms
			var p parts
			for i := range p {
				p[i] = all.list(someBytes(r, n))
			}
			// Noughts ahead of the secret and its top bit are left as they are, too.
			k, h, id := all.list(append([]byte{0, 0, 200}, someBytes(r, n)...)), all.list(someBytes(r, n)), all.list(someBytes(r, n))
			talk := p.talk()
			before := all.String()
			spoil(kdf.Sum(h))
			spoil(kdf.Print(h))
			spoil(kdf.Mac(k, h))
			spoil(kdf.Hash(talk, k))
			key, _ := kdf.Derive(k, h, 'A', id, size)
			spoil(key)
			if all.String() != before {
				t.Errorf("R2: lists of %d bytes, a key of %d: an argument was changed or shares an answer's memory", n, size)
			}
			if talk.VC != string(p[0]) || talk.VS != string(p[1]) {
				t.Error("R2: a Talk was changed")
			}
		}
	}
}

// TestReadsNoRoom: what stands behind the lists counts for nothing.
func TestReadsNoRoom(t *testing.T) {
	r := rand.New(rand.NewSource(13))
	for _, n := range edges {
		var all rooms
		var p, roomy parts
		for i := range p {
			p[i] = someBytes(r, n)
			roomy[i] = all.list(p[i])
		}
		look(t, "Sum with room behind", kdf.Sum(roomy[2]), hex.EncodeToString(kdf.Sum(p[2])))
		look(t, "Print with room behind", kdf.Print(roomy[2]), hex.EncodeToString(kdf.Sum(p[2])))
		look(t, "Mac with room behind", kdf.Mac(roomy[2], roomy[3]), hex.EncodeToString(kdf.Mac(p[2], p[3])))
		look(t, "Hash with room behind", kdf.Hash(roomy.talk(), roomy[0]), p.hash(p[0]))
		look(t, "Derive with room behind", derive(t, roomy[0], roomy[1], 'D', roomy[2], 100), hex.EncodeToString(allKeys(p[0], p[1], 'D', p[2])[:100]))
	}
}

// TestOfOneList: all lists may lie in one, each in the room behind another, and are still read as they were.
func TestOfOneList(t *testing.T) {
	all := someBytes(rand.New(rand.NewSource(14)), 300)
	before := string(all)
	copied := func(from, to int) []byte { return []byte(before[from:to]) }
	for n := range 140 {
		look(t, "Mac of one list", kdf.Mac(all[:n], all[n:]), hex.EncodeToString(kdf.Mac(copied(0, n), copied(n, 300))))
		look(t, "Derive of one list", derive(t, all[n:], all[:n], 'E', all, 256), hex.EncodeToString(allKeys(copied(n, 300), copied(0, n), 'E', copied(0, 300))))
		p := parts{all[:n], all[n:], all[:n], all, all[n : n+9], all[:0], all[:n+1]}
		look(t, "Hash of one list", kdf.Hash(p.talk(), all[:n]), p.hash(copied(0, n)))
	}
	if string(all) != before {
		t.Error("R2: an argument was changed")
	}
}

// answers is one answer of each call, and of Derive one for each size.
func answers(t *testing.T) [][]byte {
	k, h, id := unhex(t, topSecret), unhex(t, someHash), unhex(t, someID)
	list := [][]byte{kdf.Sum(h), kdf.Print(h), kdf.Mac(k, h), kdf.Hash(wholeTalk().talk(), k)}
	for _, size := range []int{1, 31, 32, 33, 64, 255, 256} {
		list = append(list, derive(t, k, h, 'A', id, size))
	}
	return list
}

func TestIsNewMemory(t *testing.T) {
	want := string(bytes.Join(answers(t), nil))
	first, second := answers(t), answers(t)
	for _, b := range first {
		spoil(b)
	}
	if string(bytes.Join(second, nil)) != want {
		t.Error("R2: two answers share memory")
	}
	if string(bytes.Join(answers(t), nil)) != want {
		t.Error("R2: an answer shares memory with what is kept")
	}
}

// TestHangsOnNothingElse: what went ahead, a refusal too, is not kept.
func TestHangsOnNothingElse(t *testing.T) {
	want := string(bytes.Join(answers(t), nil))
	for _, n := range edges {
		b := stepped(n, 3, 5)
		kdf.Sum(b)
		kdf.Print(b)
		kdf.Mac(b, b)
		kdf.Hash(kdf.Talk{VC: string(b), QS: b}, b)
		kdf.Derive(b, b, 'B', b, 257)
		kdf.Derive(b, b, 'B', b, n)
		if string(bytes.Join(answers(t), nil)) != want {
			t.Errorf("R4: behind calls of %d bytes, the answers are others", n)
		}
	}
}

// TestShowsNoMoreThanAsked: a key has no room behind it in which bytes lie that were not asked for.
func TestShowsNoMoreThanAsked(t *testing.T) {
	for size := range 257 {
		key := derive(t, unhex(t, lowSecret), unhex(t, someHash), 'C', unhex(t, someID), size)
		if cap(key) != size {
			t.Errorf("P6.1: a key of %d bytes has room for %d", size, cap(key))
		}
	}
}
