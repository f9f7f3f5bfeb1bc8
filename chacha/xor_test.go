package chacha_test

import (
	"bytes"
	"encoding/hex"
	"fmt"
	"math"
	"math/rand"
	"testing"

	"strongroom/api"
	"strongroom/chacha"
)

// TestXorOfSection242 has the text of RFC 8439's section 2.4.2.
func TestXorOfSection242(t *testing.T) {
	text := "Ladies and Gentlemen of the class of '99: If I could offer you only one tip for the future, sunscreen would be it."
	want := "6e2e359a2568f98041ba0728dd0d6981e97e7aec1d4360c20a27afccfd9fae0bf91b65c5524733ab8f593dabcd62b3571639d624e65152ab8f530c359f0861d8" +
		"07ca0dbf500d6a6156a38e088a22b65e52bc514d16ccf806818ce91ab77937365af90bbf74a35be6b40b8eedf2785e42874d"
	x, why := chacha.Xor(unhex(t, countedKey), 1, unhex(t, "000000000000004a00000000"), []byte(text))
	if got := hex.EncodeToString(x); why != api.OK || got != want {
		t.Errorf("P2.1: %v, %s", why, got)
	}
}

// TestXorOfNoughts: what is xored on noughts is the stream itself, here past the counter's end.
func TestXorOfNoughts(t *testing.T) {
	const last = math.MaxUint32
	for _, c := range []struct {
		from   uint32
		blocks []uint32
	}{
		{0, []uint32{0, 1, 2}},
		{1, []uint32{1, 2}},
		{0x01020304, []uint32{0x01020304}},
		{last - 2, []uint32{last - 2, last - 1, last}},
		{last - 2, []uint32{last - 2, last - 1, last, 0, 1, 2}},
		{last - 1, []uint32{last - 1, last, 0}},
		{last, []uint32{last, 0, 1, 2}},
	} {
		want := ""
		for _, n := range c.blocks {
			want += sectionBlocks[n]
		}
		x, why := chacha.Xor(unhex(t, countedKey), c.from, unhex(t, sectionNonce), make([]byte, 64*len(c.blocks)))
		if got := hex.EncodeToString(x); why != api.OK || got != want {
			t.Errorf("P2.1: counters %v: %v, %s", c.blocks, why, got)
		}
	}
}

// someBytes is n bytes that look like nothing.
func someBytes(r *rand.Rand, n int) []byte {
	b := make([]byte, n)
	r.Read(b)
	return b
}

// byBlocks is what Xor must answer, by way of Block.
func byBlocks(key []byte, counter uint32, nonce, b []byte) []byte {
	var x []byte
	for i, n := range b {
		block, _ := chacha.Block(key, counter+uint32(i/64), nonce)
		x = append(x, n^block[i%64])
	}
	return x
}

// lengths are those at which a block ends, and next to them.
var lengths = []int{0, 1, 2, 63, 64, 65, 127, 128, 129, 191, 192, 193, 640, 1000}

// counters are the first, the last and one in between.
var counters = []uint32{0, 1, 0x7fffffff, 0x80000000, math.MaxUint32 - 1, math.MaxUint32}

// eachCase hands on every one of the lengths with every one of the counters.
func eachCase(seed int64, look func(key []byte, counter uint32, nonce, b []byte)) {
	r := rand.New(rand.NewSource(seed))
	for _, n := range lengths {
		for _, counter := range counters {
			look(someBytes(r, 32), counter, someBytes(r, 12), someBytes(r, n))
		}
	}
}

func TestXorIsBlocks(t *testing.T) {
	eachCase(2, func(key []byte, counter uint32, nonce, b []byte) {
		x, why := chacha.Xor(key, counter, nonce, b)
		if why != api.OK || len(x) != len(b) || !bytes.Equal(x, byBlocks(key, counter, nonce, b)) {
			t.Errorf("P2.1: %d bytes from %d: %v, %x", len(b), counter, why, x)
		}
	})
}

func TestXorOfXor(t *testing.T) {
	eachCase(3, func(key []byte, counter uint32, nonce, b []byte) {
		x, _ := chacha.Xor(key, counter, nonce, b)
		y, why := chacha.Xor(key, counter, nonce, x)
		if why != api.OK || !bytes.Equal(y, b) {
			t.Errorf("P2.2: %d bytes from %d: %v, %x", len(b), counter, why, y)
		}
		if len(b) > 60 && bytes.Equal(x, b) {
			t.Errorf("P2.1: %d bytes from %d are not hidden", len(b), counter)
		}
	})
}

// TestXorOfMany has more bytes than any packet, so that many counters are gone through.
func TestXorOfMany(t *testing.T) {
	r := rand.New(rand.NewSource(4))
	key, nonce, b := someBytes(r, 32), someBytes(r, 12), someBytes(r, 1<<17+5)
	from := uint32(math.MaxUint32 - 1000)
	x, why := chacha.Xor(key, from, nonce, b)
	if why != api.OK || !bytes.Equal(x, byBlocks(key, from, nonce, b)) {
		t.Error("P2.1: many blocks")
	}
	if y, _ := chacha.Xor(key, from, nonce, x); !bytes.Equal(y, b) {
		t.Error("P2.2: many blocks")
	}
}

func TestXorOfNothing(t *testing.T) {
	key, nonce := make([]byte, 32), make([]byte, 12)
	for i, b := range [][]byte{nil, {}, make([]byte, 0, 100)} {
		if x, why := chacha.Xor(key, 5, nonce, b); why != api.OK || len(x) != 0 {
			t.Errorf("P2.1: case %d: %v, %x", i, why, x)
		}
	}
}

func TestXorRefuses(t *testing.T) {
	for _, c := range wrongSizes {
		for _, b := range [][]byte{nil, {1}, make([]byte, 100)} {
			x, why := chacha.Xor(sized(c.key), 1, sized(c.nonce), b)
			if why != api.ErrArg || len(x) != 0 {
				t.Errorf("P2.1: a key of %d and a nonce of %d bytes: %v, %x", c.key, c.nonce, why, x)
			}
		}
	}
	key, nonce := make([]byte, 32), make([]byte, 12)
	for i, c := range [][2][]byte{{nil, nonce}, {key, nil}, {nil, nil}} {
		x, why := chacha.Xor(c[0], 1, c[1], []byte{1})
		if why != api.ErrArg || len(x) != 0 {
			t.Errorf("P2.1: case %d of nil: %v, %x", i, why, x)
		}
	}
}

func TestXorLeavesArguments(t *testing.T) {
	for _, n := range lengths {
		key, keyRoom := withSpare(unhex(t, countedKey))
		nonce, nonceRoom := withSpare(unhex(t, sectionNonce))
		b, room := withSpare(bytes.Repeat([]byte("b"), n))
		before := fmt.Sprintf("%x %x %x", keyRoom, nonceRoom, room)
		x, _ := chacha.Xor(key, math.MaxUint32, nonce, b)
		spoil(x)
		if fmt.Sprintf("%x %x %x", keyRoom, nonceRoom, room) != before {
			t.Errorf("R2: %d bytes: an argument was changed or shares the answer's memory", n)
		}
	}
}

// TestXorOfOneList: what is handed in may lie in one list, and is still read as it was.
func TestXorOfOneList(t *testing.T) {
	r := rand.New(rand.NewSource(5))
	all := someBytes(r, 100)
	before := string(all)
	x, why := chacha.Xor(all[:32], 1, all[20:32], all)
	if why != api.OK || !bytes.Equal(x, byBlocks(all[:32], 1, all[20:32], all)) {
		t.Errorf("P2.1: %v", why)
	}
	if string(all) != before {
		t.Error("R2: an argument was changed")
	}
}

func TestXorIsNewMemory(t *testing.T) {
	key, nonce := unhex(t, countedKey), unhex(t, sectionNonce)
	noughts := make([]byte, 64)
	a, _ := chacha.Xor(key, 1, nonce, noughts)
	b, _ := chacha.Xor(key, 1, nonce, noughts)
	spoil(a)
	if hex.EncodeToString(b) != sectionBlocks[1] {
		t.Error("R2: two answers share memory")
	}
	if c, _ := chacha.Xor(key, 1, nonce, noughts); hex.EncodeToString(c) != sectionBlocks[1] {
		t.Error("R2: an answer that was changed changes a later one")
	}
}
