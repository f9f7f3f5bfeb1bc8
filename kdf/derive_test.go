package kdf_test

import (
	"bytes"
	"crypto/sha256"
	"encoding/hex"
	"math"
	"math/rand"
	"slices"
	"testing"

	"strongroom/api"
	"strongroom/kdf"
)

// The hash and the id that OpenSSL was given beside the secrets.
const (
	someHash = "50806e6daac90d0a5e2f972fa209f696e75329e9478c220c7a4a7297f2c50a97"
	someID   = "327fbcafc916e187d1dd45414a6137eac8d78aabce5c531bbd67b1ada89dc14a"
)

// longKey was made by OpenSSL of lowSecret, someHash, C and someID.
const longKey = "74888cd8ea141b6552012fe9437922ef9729dabbc521fd0ea3c85a09ba907ce489c29bc5048a421b349f9d58e6a2de4362163fac64b19aa0a53c200ddcbca948" +
	"1d406dfea60775829fc638ad78c7dd2172d64e590c001a8c032320fc63e3dd4d5df4f66c9ca9252ba2d33d087b6fa0446e503400bf5324764d3ffac1e5d6cd4d" +
	"f10eaa0534fe7f253163e23efec0de31bb53aee97b7787c8b51d9923396dab61a4235d6fda8305dfcdd6efeec69b663b0a7ca7ba04db2298371d1c3068d76308" +
	"0940781d9f73cdd81fe462c58a479ae5dd1b48472756708ffd34493fdb5d6fde1db8feb3928a0aefdc2db6c64ae6fdc7a9423c19a6aa082926ae1e24946a29aa"

// derive is what Derive answers to what it may not refuse.
func derive(t *testing.T, k, h []byte, letter byte, id []byte, size int) []byte {
	t.Helper()
	b, why := kdf.Derive(k, h, letter, id, size)
	if why != api.OK || len(b) != size {
		t.Fatalf("P6.1: Derive(%x, %x, %c, %x, %d): %v, %x", k, h, letter, id, size, why, b)
	}
	return b
}

// allKeys is the 256 bytes that Derive must answer, by Go's own sum.
func allKeys(k, h []byte, letter byte, id []byte) []byte {
	ahead := slices.Concat(framedNumber(k), h)
	first := sha256.Sum256(slices.Concat(ahead, []byte{letter}, id))
	all := first[:]
	for len(all) < 256 {
		next := sha256.Sum256(slices.Concat(ahead, all))
		all = slices.Concat(all, next[:])
	}
	return all
}

// TestDeriveOfOpenSSL has the six keys of RFC 4253's section 7.2, of two secrets and of these with noughts ahead.
func TestDeriveOfOpenSSL(t *testing.T) {
	for _, c := range []struct {
		secret string
		letter byte
		want   string
	}{
		{lowSecret, 'A', "b0aee4a77c6876ebf8ac18f88225a2dafc7db8e0d7efc2f512bdde5edfb4945b6d6775526544c8881efc5cf2757a4393fa15e75ef88d075c2866c4e0619258f8"},
		{lowSecret, 'B', "b910ae206da44c6f86812c2a"},
		{lowSecret, 'C', "74888cd8ea141b6552012fe9437922ef9729dabbc521fd0ea3c85a09ba907ce4"},
		{lowSecret, 'D', "ecf3f817df17de272e698f2df799b5d99aca321a3312ff809b2bf9690673c41948"},
		{lowSecret, 'E', "4a2e8be795da30e34aa16f2511d16d10208f84a0fe68f76b7a327776a7980e033bf784ec68693252337a78de9cc06ab8b8063ff2ba0de2b175433da85e834b05"},
		{lowSecret, 'F', "0f1c90517be2816fdbed8920ca7b1771b607c9569c547ad4d9603252d3af41"},
		{topSecret, 'A', "3d1c754d667ade62158bbb3728309186cad1bad26e0a90e7384b71d8e944676d7442a281266f5f5070e1c8b64be11262c66c64f1d5801accaf5d311a7eecd296"},
		{topSecret, 'B', "c4511d1689f3d19be055fc54"},
		{topSecret, 'C', "c0db167107562722214093d5200f4f04b16cd9e2bbcd16889fd11152b4b29fa8"},
		{topSecret, 'D', "2467110a781490d0adea900bcb971a69955aa5d6e62a9ab4c4d011a3d5a4c0f8fb"},
		{topSecret, 'E', "b3761f804fe7ee78770c830b49d2c95b2e483729f6c7ecfac9240995918cfb7e7372c2513229aafedb6ac5102eed00445a63221989a219cc4e09b871eab9fa9e"},
		{topSecret, 'F', "e2e9b959c86f08b9a717921716ac76e362340f9284104d7bf30fe88c977590"},
	} {
		for _, noughts := range []string{"", "00", "000000"} {
			got := derive(t, unhex(t, noughts+c.secret), unhex(t, someHash), c.letter, unhex(t, someID), len(c.want)/2)
			look(t, "Derive", got, c.want)
		}
	}
}

// TestDeriveOfOddParts: h and id go in as they are, whatever their lengths; the answers were made by OpenSSL.
func TestDeriveOfOddParts(t *testing.T) {
	look(t, "Derive of the secret 0", derive(t, []byte{0}, []byte{1}, 'A', []byte{2}, 32), "e2efc704446e71eb73f7c9c5d4c4264cf20141985ad213ea4a2e09ce23539530")
	look(t, "Derive of no secret", derive(t, nil, []byte{1}, 'A', []byte{2}, 32), "e2efc704446e71eb73f7c9c5d4c4264cf20141985ad213ea4a2e09ce23539530")
	look(t, "Derive of long parts", derive(t, []byte{0x7f}, bytes.Repeat([]byte{0xff}, 100), 'B', make([]byte, 70), 40), "2c2f017a38fa344e4532454c3a109c0040fb611e9d2cdbac2203cd7be64db4ebca01dbe7ccce2d4d")
	look(t, "Derive of noughts", derive(t, []byte{0, 0xff}, []byte{0}, 'C', []byte{0}, 1), "8e")
}

// TestDeriveOfEverySize: a shorter key is the beginning of a longer one.
func TestDeriveOfEverySize(t *testing.T) {
	for size := range 257 {
		got := derive(t, unhex(t, lowSecret), unhex(t, someHash), 'C', unhex(t, someID), size)
		look(t, "Derive", got, longKey[:2*size])
	}
}

func TestDeriveOfWrongSizes(t *testing.T) {
	for _, size := range []int{-1, -2, -32, -256, math.MinInt32, math.MinInt, 257, 258, 288, 512, 1 << 16, math.MaxInt32, math.MaxInt32 + 1, 1 << 40, 1<<40 + 32, math.MaxInt} {
		for _, list := range [][]byte{nil, {}, unhex(t, topSecret)} {
			b, why := kdf.Derive(list, list, 'A', list, size)
			if why != api.ErrArg || len(b) != 0 {
				t.Errorf("P6.1: Derive of %d bytes: %v, %x", size, why, b)
			}
		}
	}
}

// TestDeriveOfNothing: nil is as the empty list, and a key of 0 bytes is none and no refusal.
func TestDeriveOfNothing(t *testing.T) {
	want := hex.EncodeToString(allKeys(nil, nil, 0, nil))
	for _, list := range [][]byte{nil, {}} {
		for _, size := range []int{0, 1, 31, 32, 33, 64, 255, 256} {
			look(t, "Derive of nothing", derive(t, list, list, 0, list, size), want[:2*size])
		}
	}
	for _, list := range [][]byte{nil, {}, unhex(t, topSecret)} {
		if b, why := kdf.Derive(list, list, 'A', list, 0); why != api.OK || len(b) != 0 {
			t.Errorf("P6.1: Derive of 0 bytes: %v, %x", why, b)
		}
	}
}

// TestDeriveOfEachLetter: any byte may be the letter, and each makes another key.
func TestDeriveOfEachLetter(t *testing.T) {
	k, h, id := unhex(t, topSecret), unhex(t, someHash), unhex(t, someID)
	seen := map[string]bool{}
	for letter := range 256 {
		got := derive(t, k, h, byte(letter), id, 96)
		look(t, "Derive", got, hex.EncodeToString(allKeys(k, h, byte(letter), id)[:96]))
		if seen[string(got)] {
			t.Errorf("P6.1: the letter %d makes the key of another one", letter)
		}
		seen[string(got)] = true
	}
}

func TestDeriveOfMany(t *testing.T) {
	r := rand.New(rand.NewSource(11))
	for range 300 {
		k, h, id := someBytes(r, r.Intn(40)), someBytes(r, r.Intn(80)), someBytes(r, r.Intn(80))
		letter := byte(r.Intn(256))
		want := allKeys(k, h, letter, id)
		for _, size := range []int{0, 1, 31, 32, 33, 64, r.Intn(257), 255, 256} {
			look(t, "Derive", derive(t, k, h, letter, id, size), hex.EncodeToString(want[:size]))
			look(t, "Derive with a nought ahead", derive(t, append([]byte{0}, k...), h, letter, id, size), hex.EncodeToString(want[:size]))
		}
	}
}
