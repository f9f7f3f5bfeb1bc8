package aead_test

import (
	"bytes"
	"encoding/binary"
	"encoding/hex"
	"math/rand"
	"slices"
	"testing"

	"strongroom/aead"
	"strongroom/api"
	"strongroom/chacha"
	"strongroom/poly"
)

// unhex is the bytes that a test writes in hexadecimal.
func unhex(t *testing.T, s string) []byte {
	t.Helper()
	b, err := hex.DecodeString(s)
	if err != nil {
		t.Fatal(err)
	}
	return b
}

// someBytes is n bytes that look like nothing.
func someBytes(r *rand.Rand, n int) []byte {
	b := make([]byte, n)
	r.Read(b)
	return b
}

// counted is n bytes, each of them 7 further on than the one before.
func counted(from, n int) []byte {
	b := make([]byte, n)
	for i := range b {
		b[i] = byte(from + 7*i)
	}
	return b
}

// What RFC 8439 seals in its section 2.8.2.
const (
	sectionKey    = "808182838485868788898a8b8c8d8e8f909192939495969798999a9b9c9d9e9f"
	sectionNonce  = "070000004041424344454647"
	sectionBeside = "50515253c0c1c2c3c4c5c6c7"
	sectionText   = "Ladies and Gentlemen of the class of '99: If I could offer you only one tip for the future, sunscreen would be it."
	sectionHidden = "d31a8d34648e60db7b86afbc53ef7ec2a4aded51296e08fea9e2b5a736ee62d63dbea45e8ca9671282fafb69da92728b1a71de0a9e060b2905d6a5b67ecd3b36" +
		"92ddbd7f2d778b8c9803aee328091b58fab324e4fad675945585808b4831d7bc3ff4def08e4b7a9de576d26586cec64b6116"
	sectionSum = "1ae10b594f09e26a7e902ecbd0600691"
)

func TestSealOfSection282(t *testing.T) {
	b, why := aead.Seal(unhex(t, sectionKey), unhex(t, sectionNonce), unhex(t, sectionBeside), []byte(sectionText))
	if got := hex.EncodeToString(b); why != api.OK || got != sectionHidden+sectionSum {
		t.Errorf("P4.1: %v, %s", why, got)
	}
	shown, why := aead.Open(unhex(t, sectionKey), unhex(t, sectionNonce), unhex(t, sectionBeside), unhex(t, sectionHidden+sectionSum))
	if why != api.OK || string(shown) != sectionText {
		t.Errorf("P4.1: %v, %q", why, shown)
	}
}

// What RFC 8439 opens in its appendix A.5.
const (
	appendixKey    = "1c9240a5eb55d38af333888604f6b5f0473917c1402b80099dca5cbc207075c0"
	appendixNonce  = "000000000102030405060708"
	appendixBeside = "f33388860000000000004e91"
	appendixText   = "Internet-Drafts are draft documents valid for a maximum of six months and may be updated, replaced, or obsoleted by other documents at any time. It is inappropriate to use Internet-Drafts as reference material or to cite them other than as /\xe2\x80\x9cwork in progress./\xe2\x80\x9d"
	appendixSealed = "64a0861575861af460f062c79be643bd5e805cfd345cf389f108670ac76c8cb24c6cfc18755d43eea09ee94e382d26b0bdb7b73c321b0100d4f03b7f355894cf" +
		"332f830e710b97ce98c8a84abd0b948114ad176e008d33bd60f982b1ff37c8559797a06ef4f0ef61c186324e2b3506383606907b6a7c02b0f9f6157b53c867e4" +
		"b9166c767b804d46a59b5216cde7a4e99040c5a40433225ee282a1b0a06c523eaf4534d7f83fa1155b0047718cbc546a0d072b04b3564eea1b422273f548271a" +
		"0bb2316053fa76991955ebd63159434ecebb4e466dae5a1073a6727627097a1049e617d91d361094fa68f0ff77987130305beaba2eda04df997b714d6c6f2c29" +
		"a6ad5cb4022b02709beead9d67890cbb22392336fea1851f38"
)

func TestOpenOfAppendix(t *testing.T) {
	shown, why := aead.Open(unhex(t, appendixKey), unhex(t, appendixNonce), unhex(t, appendixBeside), unhex(t, appendixSealed))
	if why != api.OK || string(shown) != appendixText {
		t.Errorf("P4.1: %v, %q", why, shown)
	}
	b, why := aead.Seal(unhex(t, appendixKey), unhex(t, appendixNonce), unhex(t, appendixBeside), []byte(appendixText))
	if got := hex.EncodeToString(b); why != api.OK || got != appendixSealed {
		t.Errorf("P4.1: %v, %s", why, got)
	}
}

// sums are those that OpenSSL's ChaCha20-Poly1305 makes, of each of the sizes beside (a row) with each of the sizes of texts (a place in it).
var sums = [][]string{
	{
		"83dda710b50f80d8fcbab2bcbd0d2745",
		"10dc17b9174f0d98e69be323baa09343",
		"4b5a35ec8523ff00dc60774b1a41f689",
		"f48dd0ad8de18abd3eb081fda35f6aa2",
		"85a7e32dfb4fbc7a1bbaeee6f7b78ecd",
		"8564d5d20c2e183695f8814a8db7ec72",
		"4b0f853569dba2f96e9a3ffb88b11777",
		"b78a4cad08eb808ee15678259c32d5d4",
		"9a03af17d069ab86da25cede62beafef",
	},
	{
		"427af577140c4ecc76302eb35762973d",
		"710cb348e50aa1c17ecaa0fd94061bc8",
		"4b3c270aad98f67e3835a4cdbb44b4ec",
		"4ad55ab0c86506929406d61552e27c47",
		"a7e004ff9a8fef187e704fdd5b7d0ed8",
		"c55cc90328e37e7e72f944be8941d549",
		"bbe826df60e53930e8b76dad09eed79a",
		"b2eb8136b45ef05a4b90e9082a28fb31",
		"1893b3257a6ac6054a86b0987dd4215c",
	},
	{
		"c4ab5c673b5e862d04d0a5dd79bd17a0",
		"3145cf582e370ff79ea2571a48d6b273",
		"8825660cd6ad4e1cbff27c8c960a1f4f",
		"4c4e59b8a08c7f6bb2e9413a95d63882",
		"38923ce8626d31e63eae69ae83969cad",
		"bed2229a83b26e11d248fcf6a3649ba4",
		"87d81a91fd6ce66a7e0d1bdd069fb8f7",
		"0115f4eb6db57f07affb6bd13cc001af",
		"09e4aa3bf32df89ddd5f85ab138db087",
	},
	{
		"52d474252156bfd43f365b11e3b3d892",
		"9db494db136ecdb0cd7a64916f94677c",
		"bebf45d40a936232dba3da20285440ea",
		"210c44f88000ae4b516f5b83bc43bfa3",
		"a0b0c683cff1c8c8ecf5124078b9de2d",
		"4f590d47f3a1954038e373e60eb68d91",
		"2aaf7994cb78fe99e89cc9728b3c1adf",
		"6e4efb59ea3d0f65f030902add0eac4b",
		"3ff7853f1515e207e2056f27feb6ffd5",
	},
	{
		"1b7047c91757ffeeceae09298a5bb837",
		"16aed5067b7f5db6bd68fc3d697cbca2",
		"7844a10e0011c36c34b2597b2c6354df",
		"972bff31410a17b4fa6991131d430709",
		"d7bc971a71ba1424b0e14a7c3abc96ed",
		"807d79875eebd297320647c0f5992940",
		"e8569a91690f0f10974437abf68cfd29",
		"ca3e2f144cc2461891cf573a9ec488a3",
		"acb804d44c4add21e1ccba408fff65bf",
	},
	{
		"b69e39bd18e24170865a4f0346f332e4",
		"d74175c6b3fcd3397c9f34f28bc4921a",
		"498ba3dc6d95c541ebb38395403da7f0",
		"8b6f7687bf4e211d471ad5e6678e8a1d",
		"0624805bf582306213c13d502fec02e0",
		"f0ab0abeccf4208f111caa43dc83cdc1",
		"6b51a46a79446fb124dfd9803c8468be",
		"08007cd090fa66d1d99c05af23e9cd9c",
		"1a3a412284b6ff3612956197af6883aa",
	},
	{
		"33b54d1f30b3b2590d4df39bcfe73bb7",
		"5a8e85bd1b7ad23520769570961d9108",
		"b48eaaf96b22454cf3fb91b504526f1f",
		"994c4b7a6d30e108f9c64f8bcc20fcb7",
		"2be6c5595e63360e87e2c67b5f000d82",
		"e0af3d64020130c491e24ccea6c9d1c8",
		"9eba76f56fa0d790ad9c39dc54b16d3d",
		"732523b1f797ad07496f5e03311f7d08",
		"7a12882545a21703bf7f50600e69d045",
	},
	{
		"5c7e80d8b63edb418773b60ed1b32a65",
		"c5c9b17045756f17e774716caf41ad35",
		"80fcef4d87344404a299aa073d49d4b7",
		"6ba03b748d282287cdae6e84fe7bac54",
		"d03463ebc7691d21e82f377922f143af",
		"e16b526595b93145c196c646a92b5cba",
		"ca477ad14d93f88fb526a4f41141d38b",
		"c3bea851b35e7b7a11aefd9aa30360d8",
		"630ad8fcfb2bf3d6ab753100cbe9f714",
	},
	{
		"fe19a375f139e675d596aa3c504dcffa",
		"5a8e49aedcef2124ab2de2c479e6d8b5",
		"2bc420477e6bc330c97f53ea698fb3f6",
		"7daed280d378731842d0d9e3d6540d91",
		"02547a090f308c6a6d2269feed1b03e4",
		"7011a4c78755cc51cb7ab07628f16726",
		"c4464b067e218e05f688246e133fe269",
		"05055ace7e6c161acd7720c25630285b",
		"09b786cec37e3192c30972cdc3292e32",
	},
}

var sizes = []int{0, 1, 15, 16, 17, 63, 64, 65, 300}

func TestSealAsOpenSSL(t *testing.T) {
	for i, row := range sums {
		for j, want := range row {
			key, nonce := counted(sizes[i], 32), counted(sizes[j], 12)
			beside, text := counted(3, sizes[i]), counted(5, sizes[j])
			b, why := aead.Seal(key, nonce, beside, text)
			if why != api.OK || len(b) != sizes[j]+16 {
				t.Fatalf("P4.1: %d beside %d: %v, %d bytes", sizes[i], sizes[j], why, len(b))
			}
			if got := hex.EncodeToString(b[sizes[j]:]); got != want {
				t.Errorf("P4.1: %d beside %d: the sum is %s", sizes[i], sizes[j], got)
			}
			if shown, _ := chacha.Xor(key, 1, nonce, b[:sizes[j]]); !bytes.Equal(shown, text) {
				t.Errorf("P4.1: %d beside %d: hidden is %x", sizes[i], sizes[j], b[:sizes[j]])
			}
		}
	}
}

// byHand is what Seal must answer, put together as the chapter says it.
func byHand(key, nonce, beside, b []byte) []byte {
	upTo16 := func(n int) []byte { return make([]byte, (16-n%16)%16) }
	hidden, _ := chacha.Xor(key, 1, nonce, b)
	first, _ := chacha.Block(key, 0, nonce)
	text := slices.Concat(beside, upTo16(len(beside)), hidden, upTo16(len(hidden)))
	text = binary.LittleEndian.AppendUint64(text, uint64(len(beside)))
	text = binary.LittleEndian.AppendUint64(text, uint64(len(hidden)))
	sum, _ := poly.Sum(first[:32], text)
	return slices.Concat(hidden, sum)
}

// lengths are those at which a piece, a block, or a byte of a length ends, and next to them.
var lengths = []int{0, 1, 2, 15, 16, 17, 31, 32, 33, 63, 64, 65, 127, 128, 129, 255, 256, 257, 1000, 65535, 65536, 65537}

// eachCase hands on every one of the lengths beside every one of them.
func eachCase(seed int64, look func(key, nonce, beside, b []byte)) {
	r := rand.New(rand.NewSource(seed))
	for _, n := range lengths {
		for _, m := range lengths {
			look(someBytes(r, 32), someBytes(r, 12), someBytes(r, n), someBytes(r, m))
		}
	}
}

func TestSealIsByHand(t *testing.T) {
	eachCase(1, func(key, nonce, beside, b []byte) {
		sealed, why := aead.Seal(key, nonce, beside, b)
		if why != api.OK || !bytes.Equal(sealed, byHand(key, nonce, beside, b)) {
			t.Errorf("P4.1: %d beside %d: %v", len(beside), len(b), why)
		}
	})
}

func TestOpenOfSeal(t *testing.T) {
	eachCase(2, func(key, nonce, beside, b []byte) {
		sealed, _ := aead.Seal(key, nonce, beside, b)
		shown, why := aead.Open(key, nonce, beside, sealed)
		if why != api.OK || !bytes.Equal(shown, b) {
			t.Errorf("P4.2: %d beside %d: %v, %d bytes", len(beside), len(b), why, len(shown))
		}
	})
}

// TestOpenOfByHand: what is opened needs not come from Seal.
func TestOpenOfByHand(t *testing.T) {
	eachCase(3, func(key, nonce, beside, b []byte) {
		shown, why := aead.Open(key, nonce, beside, byHand(key, nonce, beside, b))
		if why != api.OK || !bytes.Equal(shown, b) {
			t.Errorf("P4.1: %d beside %d: %v, %d bytes", len(beside), len(b), why, len(shown))
		}
	})
}

// TestSealOfNoughts: bytes that are all the same have ends as well.
func TestSealOfNoughts(t *testing.T) {
	key, nonce := make([]byte, 32), make([]byte, 12)
	for _, n := range lengths {
		for _, fill := range []byte{0, 255} {
			beside, b := bytes.Repeat([]byte{fill}, n), bytes.Repeat([]byte{fill}, n)
			sealed, why := aead.Seal(key, nonce, beside, b)
			if why != api.OK || !bytes.Equal(sealed, byHand(key, nonce, beside, b)) {
				t.Errorf("P4.1: %d of %d: %v", n, fill, why)
			}
			if shown, why := aead.Open(key, nonce, beside, sealed); why != api.OK || !bytes.Equal(shown, b) {
				t.Errorf("P4.2: %d of %d: %v", n, fill, why)
			}
		}
	}
}

// TestSealOfNothing: nil and empty lists are the same, beside too.
func TestSealOfNothing(t *testing.T) {
	key, nonce := unhex(t, sectionKey), unhex(t, sectionNonce)
	want := byHand(key, nonce, nil, nil)
	nothings := [][]byte{nil, {}, make([]byte, 0, 100)}
	for i, beside := range nothings {
		for j, b := range nothings {
			sealed, why := aead.Seal(key, nonce, beside, b)
			if why != api.OK || len(sealed) != 16 || !bytes.Equal(sealed, want) {
				t.Errorf("P4.1: case %d, %d: %v, %x", i, j, why, sealed)
			}
			if shown, why := aead.Open(key, nonce, beside, want); why != api.OK || len(shown) != 0 {
				t.Errorf("P4.2: case %d: %v, %x", i, why, shown)
			}
		}
	}
}
