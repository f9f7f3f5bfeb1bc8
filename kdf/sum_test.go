package kdf_test

import (
	"bytes"
	"crypto/sha256"
	"encoding/hex"
	"math/rand"
	"strings"
	"testing"

	"strongroom/kdf"
)

// unhex is the bytes that a test writes in hexadecimal.
func unhex(t *testing.T, s string) []byte {
	t.Helper()
	b, err := hex.DecodeString(s)
	if err != nil {
		t.Fatal(err)
	}
	return b
}

// someBytes is n bytes that are the same in every run.
func someBytes(r *rand.Rand, n int) []byte {
	b := make([]byte, n)
	r.Read(b)
	return b
}

// stepped is n bytes, the first of which is first, and each further one step above the one ahead of it.
func stepped(n, first, step int) []byte {
	b := make([]byte, n)
	for i := range b {
		b[i] = byte(first + step*i)
	}
	return b
}

// look holds an answer against what it must be.
func look(t *testing.T, what string, got []byte, want string) {
	t.Helper()
	if hex.EncodeToString(got) != want {
		t.Errorf("P6.1: %s: %x, want %s", what, got, want)
	}
}

// lookSum holds both calls that answer a plain sum against it.
func lookSum(t *testing.T, what string, b []byte, want string) {
	t.Helper()
	look(t, "Sum of "+what, kdf.Sum(b), want)
	look(t, "Print of "+what, kdf.Print(b), want)
}

// TestSumOfStandard: FIPS 180-4's examples; the text of 112 bytes is the one that it has for longer sums, and its sum was made by OpenSSL.
func TestSumOfStandard(t *testing.T) {
	for _, c := range []struct{ text, want string }{
		{"", "e3b0c44298fc1c149afbf4c8996fb92427ae41e4649b934ca495991b7852b855"},
		{"abc", "ba7816bf8f01cfea414140de5dae2223b00361a396177a9cb410ff61f20015ad"},
		{"abcdbcdecdefdefgefghfghighijhijkijkljklmklmnlmnomnopnopq", "248d6a61d20638b8e5c026930c3e6039a33ce45964ff2167f6ecedd419db06c1"},
		{"abcdefghbcdefghicdefghijdefghijkefghijklfghijklmghijklmnhijklmnoijklmnopjklmnopqklmnopqrlmnopqrsmnopqrstnopqrstu", "cf5b16a778af8380036ce59e7b0492370b249b11e8f07a51afac45037afee9d1"},
	} {
		lookSum(t, c.text, []byte(c.text), c.want)
	}
	lookSum(t, "a million times a", bytes.Repeat([]byte("a"), 1000000), "cdc76e5c9914fb9281a1c7e284d73e67f1809a48a497200e046d39ccc7112cd0")
}

// TestSumOfNil: nil is as the empty list.
func TestSumOfNil(t *testing.T) {
	lookSum(t, "nil", nil, "e3b0c44298fc1c149afbf4c8996fb92427ae41e4649b934ca495991b7852b855")
}

// sumsOfLengths were made by OpenSSL of 1, 4, 7, .., so many bytes.
var sumsOfLengths = []struct {
	size int
	want string
}{
	{1, "4bf5122f344554c53bde2ebb8cd2b7e3d1600ad631c385a5d7cce23c7785459a"},
	{31, "c96ba3bae380b0605187ab610884f39dc40e92f6a13394a5a0f629c9b1cee842"},
	{32, "427c4cdfcacf83c8292714515c85ffe3afdab23c883431f7f60fea0738992189"},
	{54, "79ce4396936f6c021bb3ce6a700e5a289d5772b53399159409bea5d994b0336f"},
	{55, "255859cf122ce9d6c297a812dabf7bce76745723433e0e450961292507137bfd"},
	{56, "e7c0ae791030d5a6930b1b8a3e877b01bcffd44207ce5834cec5ba8a320b35a0"},
	{57, "df4e57896dfd3163d5535dbcab29ee45d6ccddb89a492eb60d0854a830219ae1"},
	{62, "52340763ae7fa9965021c78b60b21d82d9a883047bdc7968eea2724c9ccb0706"},
	{63, "c340892407ec331520de613d56548cba57dd17904417cf7eaeb5e2b670a2cb28"},
	{64, "ce7ccfd59b8c3d5ca8bb16d35920e9373a5742e0017ca2e2eceafc44324cc657"},
	{65, "fd4087216ca4b3bd64c815110338892f2437320429fb4a9f8c659e393868525c"},
	{118, "718745ac7c958425fc87b5e554a75a5e7d38f6dd07d5ecaee32ef62451af7382"},
	{119, "aaeec692019300771e02ab91caaacd0c04c7ff42cce7cc46ad7ffeb5de53ca75"},
	{120, "4361c2592fec8a1c129b4ab196ff28b83a012e65f67f153fdefa55adf8a133bc"},
	{121, "862679d73d17c62034ee9ecbb53eeb2a160dd0d0ce4027e645ea9dcf767a69bb"},
	{127, "68dc87935b99af1ef7e27ce26f7a651f56d81174e24bfba0672e5dbed25a4c03"},
	{128, "f12f5e36759db69298916a3eba5e975e9d67c1f1d32aa3e23976fa0d47490bf8"},
	{129, "992a21131e0f5b8ef2af5fdcd9da21e5bffee9cb28d036d9c5b6d69e8f262881"},
	{183, "94ff4ef307270ad4501431e9b7f0807ea7428e7a7b2d58c5e6ebb3fefe46e0b2"},
	{184, "b051fa098565209e0d913da31232323fe41a5aea5c96b72bca86b7ad2c5d1aee"},
	{191, "0ca7ab52dea20ae1465558b2f6a386f3b83dbe037af177de929a8416ad8ed160"},
	{192, "d7fb098fd48531617fec172cddc579310aafa158dfe5b68de92b9c1d2db018c2"},
	{193, "93a58e3f7f07fc6a161598b3cc5a97eb30a844dee8b498f8504e6198e68411a4"},
	{1000, "c26b70d5cf0b62bafdcf00c5276ddc54e4e1ec234fc1ff2def618f2c22fb9619"},
}

func TestSumOfLengths(t *testing.T) {
	for _, c := range sumsOfLengths {
		lookSum(t, "stepped bytes", stepped(c.size, 1, 3), c.want)
	}
}

// TestSumOfEveryLength goes past many blocks' ends, with bytes of all kinds and with noughts and ones alone, which padding could be taken for.
func TestSumOfEveryLength(t *testing.T) {
	r := rand.New(rand.NewSource(6))
	for n := range 700 {
		for _, b := range [][]byte{someBytes(r, n), make([]byte, n), bytes.Repeat([]byte{0x80}, n), bytes.Repeat([]byte{0xff}, n)} {
			want := sha256.Sum256(b)
			lookSum(t, "bytes", b, hex.EncodeToString(want[:]))
		}
	}
}

// TestSumOfLongTexts has lengths of which each byte of the count of bits up to the fourth is reached.
func TestSumOfLongTexts(t *testing.T) {
	r := rand.New(rand.NewSource(7))
	for _, n := range []int{31, 32, 8191, 8192, 8193, 1<<16 - 1, 1 << 16, 1<<21 - 1, 1 << 21, 1<<21 + 65} {
		b := someBytes(r, n)
		want := sha256.Sum256(b)
		lookSum(t, "a long text", b, hex.EncodeToString(want[:]))
	}
}

// TestSumOfEachBit: each bit of a text of two blocks counts.
func TestSumOfEachBit(t *testing.T) {
	b := stepped(100, 7, 9)
	seen := map[string]bool{string(kdf.Sum(b)): true}
	for i := range b {
		for bit := range 8 {
			b[i] ^= 1 << bit
			got := string(kdf.Sum(b))
			want := sha256.Sum256(b)
			if got != string(want[:]) || seen[got] {
				t.Errorf("P6.1: byte %d, bit %d: %x", i, bit, got)
			}
			seen[got] = true
			b[i] ^= 1 << bit
		}
	}
}

// TestSumOfSums goes on from each sum to the next, so that every word of the reckoning takes many values.
func TestSumOfSums(t *testing.T) {
	b := []byte(strings.Repeat("strongroom ", 3))
	want := bytes.Clone(b)
	for i := range 1000 {
		b = kdf.Sum(b)
		sum := sha256.Sum256(want)
		want = sum[:]
		if !bytes.Equal(b, want) {
			t.Fatalf("P6.1: sum %d: %x, want %x", i, b, want)
		}
	}
}
