package poly_test

import (
	"bytes"
	"encoding/hex"
	"math/big"
	"math/rand"
	"slices"
	"strings"
	"testing"

	"strongroom/api"
	"strongroom/poly"
)

// unhex is the bytes that a test writes in hexadecimal.
func unhex(t *testing.T, s string) []byte {
	t.Helper()
	b, err := hex.DecodeString(s)
	if err != nil {
		t.Fatal(err)
	}
	return b
}

// someBytes is n bytes that look like nothing.
func someBytes(r *rand.Rand, n int) []byte {
	b := make([]byte, n)
	r.Read(b)
	return b
}

// The key and the sum of RFC 8439's section 2.5.2.
const (
	sectionKey  = "85d6be7857556d337f4452fe42d506a80103808afb0db2fd4abff6af4149f51b"
	sectionText = "Cryptographic Forum Research Group"
	sectionSum  = "a8061dc1305136c6c22b8baf0c0127a9"
)

func TestSumOfSection252(t *testing.T) {
	b, why := poly.Sum(unhex(t, sectionKey), []byte(sectionText))
	if got := hex.EncodeToString(b); why != api.OK || got != sectionSum {
		t.Errorf("P3.1: %v, %s", why, got)
	}
}

// Texts of RFC 8439's appendix A.3.
const (
	submission = "Any submission to the IETF intended by the Contributor for publication as all or part of an IETF Internet-Draft or RFC and any statement made within the context of an IETF activity is considered an \"IETF Contribution\". Such statements include oral statements in IETF sessions, as well as written and electronic communications made at any time or place, which are addressed to"
	jabberwock = "'Twas brillig, and the slithy toves\nDid gyre and gimble in the wabe:\nAll mimsy were the borogoves,\nAnd the mome raths outgrabe."
)

// TestSumOfAppendix has the sums of RFC 8439's appendix A.3: those behind the texts lie at the number's ends.
func TestSumOfAppendix(t *testing.T) {
	nought := strings.Repeat("00", 16)
	ones := strings.Repeat("ff", 16)
	small := func(s string) string { return s + nought[len(s):] }
	slanted := "01000000000000000400000000000000"
	for i, c := range []struct{ first, second, b, want string }{
		{nought, nought, strings.Repeat(nought, 4), nought},
		{nought, "36e5f6b5c5e06070f0efca96227a863e", hex.EncodeToString([]byte(submission)), "36e5f6b5c5e06070f0efca96227a863e"},
		{"36e5f6b5c5e06070f0efca96227a863e", nought, hex.EncodeToString([]byte(submission)), "f3477e7cd95417af89a6b8794c310cf0"},
		{"1c9240a5eb55d38af333888604f6b5f0", "473917c1402b80099dca5cbc207075c0", hex.EncodeToString([]byte(jabberwock)), "4541669a7eaaee61e708dc7cbcc5eb62"},
		{small("02"), nought, ones, small("03")},
		{small("02"), ones, small("02"), small("03")},
		{small("01"), nought, ones + "f0" + ones[2:] + small("11"), small("05")},
		{small("01"), nought, ones + "fb" + strings.Repeat("fe", 15) + strings.Repeat("01", 16), nought},
		{small("02"), nought, "fd" + ones[2:], "fa" + ones[2:]},
		{slanted, nought, "e33594d7505e43b900000000000000003394d7505e4379cd01000000000000000000000000000000000000000000000001000000000000000000000000000000", "14000000000000005500000000000000"},
		{slanted, nought, "e33594d7505e43b900000000000000003394d7505e4379cd010000000000000000000000000000000000000000000000", small("13")},
	} {
		b, why := poly.Sum(unhex(t, c.first+c.second), unhex(t, c.b))
		if got := hex.EncodeToString(b); why != api.OK || got != c.want {
			t.Errorf("P3.1: case %d: %v, %s, want %s", i+1, why, got, c.want)
		}
		look(t, "the appendix", unhex(t, c.first+c.second), unhex(t, c.b))
	}
}

// lengths are those at which a piece ends, and next to them.
var lengths = []int{0, 1, 2, 15, 16, 17, 31, 32, 33, 47, 48, 49, 63, 64, 65, 160, 255, 256, 257, 1000}

// prime is 2^130 - 5.
var prime = new(big.Int).Sub(power(130), big.NewInt(5))

func power(n uint) *big.Int { return new(big.Int).Lsh(big.NewInt(1), n) }

// great is the number of bytes, the lowest first.
func great(b []byte) *big.Int {
	turned := slices.Clone(b)
	slices.Reverse(turned)
	return new(big.Int).SetBytes(turned)
}

// low is a number's lowest 16 bytes, the lowest first.
func low(n *big.Int) []byte {
	b := new(big.Int).Mod(n, power(128)).FillBytes(make([]byte, 16))
	slices.Reverse(b)
	return b
}

// factor is what a key multiplies by.
func factor(key []byte) *big.Int {
	mask, _ := new(big.Int).SetString("0ffffffc0ffffffc0ffffffc0fffffff", 16)
	return mask.And(mask, great(key[:16]))
}

// pile is the number that a key makes of b ahead of the key's second half.
func pile(key, b []byte) *big.Int {
	n := new(big.Int)
	for piece := range slices.Chunk(b, 16) {
		n.Add(n, great(piece))
		n.Add(n, power(uint(8*len(piece))))
		n.Mul(n, factor(key))
		n.Mod(n, prime)
	}
	return n
}

// greatSum is what Sum must answer, by great numbers.
func greatSum(key, b []byte) []byte {
	n := pile(key, b)
	return low(n.Add(n, great(key[16:])))
}

// look holds Sum against great numbers.
func look(t *testing.T, what string, key, b []byte) {
	t.Helper()
	got, why := poly.Sum(key, b)
	if want := greatSum(key, b); why != api.OK || !bytes.Equal(got, want) {
		t.Errorf("P3.1: %s: key %x, %d bytes %.40x: %v, %x, want %x", what, key, len(b), b, why, got, want)
	}
}

// halves are a key's: noughts, all bits, the least and the greatest ones, and bits that don't count.
func halves(r *rand.Rand) [][]byte {
	all := [][]byte{
		make([]byte, 16),
		bytes.Repeat([]byte{0xff}, 16),
		low(big.NewInt(1)),
		low(big.NewInt(2)),
		low(power(127)),
		low(power(124)),
		low(factor(bytes.Repeat([]byte{0xff}, 16))),
		low(new(big.Int).Not(factor(bytes.Repeat([]byte{0xff}, 16)))),
	}
	for range 5 {
		all = append(all, someBytes(r, 16))
	}
	return all
}

func TestSumOfLengths(t *testing.T) {
	r := rand.New(rand.NewSource(1))
	for _, n := range lengths {
		for _, first := range halves(r) {
			for _, second := range halves(r) {
				key := slices.Concat(first, second)
				look(t, "noughts", key, make([]byte, n))
				look(t, "all bits", key, bytes.Repeat([]byte{0xff}, n))
				look(t, "bytes", key, someBytes(r, n))
			}
		}
	}
}

// TestSumOfMany has more bytes than any packet, with the greatest limbs that there are.
func TestSumOfMany(t *testing.T) {
	r := rand.New(rand.NewSource(2))
	ones := bytes.Repeat([]byte{0xff}, 40000)
	for _, extra := range []int{0, 1, 15} {
		look(t, "many", ones[:32], ones[:40000-16+extra])
		look(t, "many", someBytes(r, 32), ones[:40000-16+extra])
		look(t, "many", ones[:32], someBytes(r, 40000-16+extra))
	}
}

// TestSumOfEachBit: each bit of the key and of what is summed is at its own place.
func TestSumOfEachBit(t *testing.T) {
	for n := range 256 {
		key := make([]byte, 32)
		key[n/8] = 1 << (n % 8)
		look(t, "a key's bit", key, []byte(sectionText))
		look(t, "a key's bit", key, []byte{1})
	}
	for n := range 8 * 40 {
		b := make([]byte, 40)
		b[n/8] = 1 << (n % 8)
		look(t, "a bit", unhex(t, sectionKey), b)
	}
}

// TestSumCountsNoughtsAtTheEnd: a piece's length counts, not its number alone.
func TestSumCountsNoughtsAtTheEnd(t *testing.T) {
	seen := map[string]int{}
	for n := range 50 {
		b, _ := poly.Sum(unhex(t, sectionKey), make([]byte, n))
		if was, ok := seen[string(b)]; ok {
			t.Errorf("P3.1: %d and %d noughts have one sum", was, n)
		}
		seen[string(b)] = n
	}
}

func TestSumOfNothing(t *testing.T) {
	r := rand.New(rand.NewSource(3))
	for _, first := range halves(r) {
		for _, second := range halves(r) {
			for i, b := range [][]byte{nil, {}, bytes.Repeat([]byte{9}, 40)[:0]} {
				got, why := poly.Sum(slices.Concat(first, second), b)
				if why != api.OK || !bytes.Equal(got, second) {
					t.Errorf("P3.1: case %d: %v, %x, want %x", i, why, got, second)
				}
			}
		}
	}
}

// TestSumOfNoughtFactor: a first half of which no bit counts makes the second half of everything.
func TestSumOfNoughtFactor(t *testing.T) {
	r := rand.New(rand.NewSource(4))
	second := someBytes(r, 16)
	unread := low(new(big.Int).Not(factor(bytes.Repeat([]byte{0xff}, 16))))
	for _, first := range [][]byte{make([]byte, 16), unread} {
		for _, n := range lengths {
			got, why := poly.Sum(slices.Concat(first, second), someBytes(r, n))
			if why != api.OK || !bytes.Equal(got, second) {
				t.Errorf("P3.1: %x, %d bytes: %v, %x", first, n, why, got)
			}
		}
	}
}

func TestSumRefuses(t *testing.T) {
	for _, n := range []int{0, 1, 15, 16, 17, 31, 33, 34, 48, 64, 1000} {
		for _, b := range [][]byte{nil, {}, {1}, make([]byte, 16), make([]byte, 100)} {
			// The room behind the key would make it a right one.
			got, why := poly.Sum(make([]byte, n, n+64), b)
			if why != api.ErrArg || len(got) != 0 {
				t.Errorf("P3.1: a key of %d bytes: %v, %x", n, why, got)
			}
		}
	}
	if got, why := poly.Sum(nil, nil); why != api.ErrArg || len(got) != 0 {
		t.Errorf("P3.1: nil: %v, %x", why, got)
	}
	if got, why := poly.Sum(make([]byte, 32), nil); why != api.OK || len(got) != 16 {
		t.Errorf("P3.1: a key of 32 bytes: %v, %x", why, got)
	}
}
