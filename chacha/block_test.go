package chacha_test

import (
	"encoding/hex"
	"math"
	"strings"
	"testing"

	"strongroom/api"
	"strongroom/chacha"
)

// unhex is the bytes that a test writes in hexadecimal.
func unhex(t *testing.T, s string) []byte {
	t.Helper()
	b, err := hex.DecodeString(s)
	if err != nil {
		t.Fatal(err)
	}
	return b
}

// The key and the nonce of RFC 8439's section 2.3.2.
const (
	countedKey   = "000102030405060708090a0b0c0d0e0f101112131415161718191a1b1c1d1e1f"
	sectionNonce = "000000090000004a00000000"
)

var (
	noughtKey   = strings.Repeat("00", 32)
	noughtNonce = strings.Repeat("00", 12)
)

// sectionBlocks are whole Blocks of countedKey and sectionNonce, by their counters.
var sectionBlocks = map[uint32]string{
	0:                  "8adc91fd9ff4f0f51b0fad50ff15d637e40efda206cc52c783a74200503c1582cd9833367d0a54d57d3c9e998f490ee69ca34c1ff9e939a75584c52d690a35d4",
	1:                  "10f1e7e4d13b5915500fdd1fa32071c4c7d1f4c733c068030422aa9ac3d46c4ed2826446079faa0914c2d705d98b02a2b5129cd1de164eb9cbd083e8a2503c4e",
	2:                  "0a88837739d7bf4ef8ccacb0ea2bb9d69d56c394aa351dfda5bf459f0a2e9fe8e721f89255f9c486bf21679c683d4f9c5cf2fa27865526005b06ca374c86af3b",
	0x01020304:         "cc671187669bbfc8b3a329e9e50fc2550a26f184be44e7c4d8d43667e6cf7b8cbf06efdce229c731ab68915fc5c37e7a44c3b5a12074fc317791bbdc7534e69d",
	math.MaxUint32 - 2: "85e4b6a8eb94fc6975c4023c7328c13bcaf10321f87f74980e438ec9966ffdce1359178bd5d038aaf300fcf1a6c09da3f0da0b64a50623c14ffe9c9fad1734f5",
	math.MaxUint32 - 1: "bed7e9fb1985cf676d5b3eee7cdd741282a8e6703109423c0c15c551a64d374f8a897645cf2688709dc061487d111682e4be93a05f18df4a1d292f8ca8b5f460",
	math.MaxUint32:     "ff2941b8d740f6cbb50936bf997ebd5218cb108dc53f41c64841d0218167430ca03b770ca74ccb642a28194d1dedd2ed13151e25ec5d7faeb6d060bfb7e6b146",
}

func TestBlockOfSection232(t *testing.T) {
	for counter, want := range sectionBlocks {
		b, why := chacha.Block(unhex(t, countedKey), counter, unhex(t, sectionNonce))
		if got := hex.EncodeToString(b); why != api.OK || got != want {
			t.Errorf("P2.1: counter %d: %v, %s", counter, why, got)
		}
	}
}

// TestBlockOfAppendix has the Blocks of RFC 8439's appendix A.1.
func TestBlockOfAppendix(t *testing.T) {
	for i, c := range []struct {
		key     string
		counter uint32
		nonce   string
		want    string
	}{
		{noughtKey, 0, noughtNonce, "76b8e0ada0f13d90405d6ae55386bd28bdd219b8a08ded1aa836efcc8b770dc7da41597c5157488d7724e03fb8d84a376a43b8f41518a11cc387b669b2ee6586"},
		{noughtKey, 1, noughtNonce, "9f07e7be5551387a98ba977c732d080dcb0f29a048e3656912c6533e32ee7aed29b721769ce64e43d57133b074d839d531ed1f28510afb45ace10a1f4b794d6f"},
		{noughtKey[:62] + "01", 1, noughtNonce, "3aeb5224ecf849929b9d828db1ced4dd832025e8018b8160b82284f3c949aa5a8eca00bbb4a73bdad192b5c42f73f2fd4e273644c8b36125a64addeb006c13a0"},
		{"00ff" + noughtKey[4:], 2, noughtNonce, "72d54dfbf12ec44b362692df94137f328fea8da73990265ec1bbbea1ae9af0ca13b25aa26cb4a648cb9b9d1be65b2c0924a66c54d545ec1b7374f4872e99f096"},
		{noughtKey, 0, noughtNonce[:22] + "02", "c2c64d378cd536374ae204b9ef933fcd1a8b2288b3dfa49672ab765b54ee27c78a970e0e955c14f3a88e741b97c286f75f8fc299e8148362fa198a39531bed6d"},
	} {
		b, why := chacha.Block(unhex(t, c.key), c.counter, unhex(t, c.nonce))
		if got := hex.EncodeToString(b); why != api.OK || got != c.want {
			t.Errorf("P2.1: case %d: %v, %s", i, why, got)
		}
	}
}

// TestBlockHangsOnEachByte: no byte of the key, the nonce or the counter is left out or stands for another.
func TestBlockHangsOnEachByte(t *testing.T) {
	seen := map[string]int{}
	ask := func(key []byte, counter uint32, nonce []byte) {
		b, why := chacha.Block(key, counter, nonce)
		if why != api.OK || len(b) != 64 {
			t.Fatalf("P2.1: %v, %d bytes", why, len(b))
		}
		seen[string(b)]++
	}
	key, nonce := make([]byte, 32), make([]byte, 12)
	ask(key, 0, nonce)
	for i := range key {
		key[i] = 1
		ask(key, 0, nonce)
		key[i] = 0
	}
	for i := range nonce {
		nonce[i] = 1
		ask(key, 0, nonce)
		nonce[i] = 0
	}
	for i := range 4 {
		ask(key, 1<<(8*i), nonce)
	}
	if len(seen) != 1+32+12+4 {
		t.Errorf("P2.1: %d Blocks of %d are different", len(seen), 1+32+12+4)
	}
}

// wrongSizes are those of keys and nonces, of which at least one is refused.
var wrongSizes = []struct{ key, nonce int }{
	{0, 12}, {1, 12}, {16, 12}, {31, 12}, {33, 12}, {64, 12},
	{32, 0}, {32, 8}, {32, 11}, {32, 13}, {32, 24},
	{0, 0}, {31, 11}, {33, 13}, {31, 13}, {12, 32},
}

// sized is n bytes with room behind them for the rest of a right key, which is not to be read.
func sized(n int) []byte { return make([]byte, n, n+64) }

func TestBlockRefuses(t *testing.T) {
	for _, c := range wrongSizes {
		b, why := chacha.Block(sized(c.key), 1, sized(c.nonce))
		if why != api.ErrArg || len(b) != 0 {
			t.Errorf("P2.1: a key of %d and a nonce of %d bytes: %v, %x", c.key, c.nonce, why, b)
		}
	}
	key, nonce := make([]byte, 32), make([]byte, 12)
	for i, c := range [][2][]byte{{nil, nonce}, {key, nil}, {nil, nil}} {
		b, why := chacha.Block(c[0], 1, c[1])
		if why != api.ErrArg || len(b) != 0 {
			t.Errorf("P2.1: case %d of nil: %v, %x", i, why, b)
		}
	}
}

// withSpare is b with room behind it that holds marks.
func withSpare(b []byte) (list, room []byte) {
	room = append(append([]byte{}, b...), strings.Repeat("\xee", 80)...)
	return room[:len(b)], room
}

func TestBlockLeavesArguments(t *testing.T) {
	key, keyRoom := withSpare(unhex(t, countedKey))
	nonce, nonceRoom := withSpare(unhex(t, sectionNonce))
	before := string(keyRoom) + string(nonceRoom)
	b, _ := chacha.Block(key, 1, nonce)
	spoil(b)
	if string(keyRoom)+string(nonceRoom) != before {
		t.Error("R2: an argument was changed or shares the answer's memory")
	}
}

func TestBlockIsNewMemory(t *testing.T) {
	key, nonce := unhex(t, countedKey), unhex(t, sectionNonce)
	a, _ := chacha.Block(key, 1, nonce)
	b, _ := chacha.Block(key, 1, nonce)
	spoil(a)
	if hex.EncodeToString(b) != sectionBlocks[1] {
		t.Error("R2: two answers share memory")
	}
	if c, _ := chacha.Block(key, 1, nonce); hex.EncodeToString(c) != sectionBlocks[1] {
		t.Error("R2: an answer that was changed changes a later one")
	}
}

// spoil changes all of an answer, its spare room too.
func spoil(b []byte) {
	b = b[:cap(b)]
	for i := range b {
		b[i] ^= 0xff
	}
}
