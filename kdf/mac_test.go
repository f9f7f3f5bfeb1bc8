package kdf_test

import (
	"bytes"
	"crypto/hmac"
	"crypto/sha256"
	"encoding/hex"
	"math/rand"
	"testing"

	"strongroom/kdf"
)

// TestMacOfRFC4231 has the examples of its section 4; the fifth is told there up to 16 bytes alone.
func TestMacOfRFC4231(t *testing.T) {
	for i, c := range []struct {
		key        []byte
		text, want string
	}{
		{bytes.Repeat([]byte{0x0b}, 20), "Hi There", "b0344c61d8db38535ca8afceaf0bf12b881dc200c9833da726e9376c2e32cff7"},
		{[]byte("Jefe"), "what do ya want for nothing?", "5bdcc146bf60754e6a042426089575c75a003f089d2739839dec58b964ec3843"},
		{bytes.Repeat([]byte{0xaa}, 20), string(bytes.Repeat([]byte{0xdd}, 50)), "773ea91e36800e46854db8ebd09181a72959098b3ef8c122d9635514ced565fe"},
		{stepped(25, 1, 1), string(bytes.Repeat([]byte{0xcd}, 50)), "82558a389a443c0ea4cc819899f2083a85f0faa3e578f8077a2e3ff46729665b"},
		{bytes.Repeat([]byte{0x0c}, 20), "Test With Truncation", "a3b6167473100ee06e0c796c2955552b"},
		{bytes.Repeat([]byte{0xaa}, 131), "Test Using Larger Than Block-Size Key - Hash Key First", "60e431591ee0b67f0d8a26aacbf5b77f8e0bc6213728c5140546040f0ee37f54"},
		{bytes.Repeat([]byte{0xaa}, 131), "This is a test using a larger than block-size key and a larger than block-size data. The key needs to be hashed before being used by the HMAC algorithm.", "9b09ffa71b942fcb27635fbcd5b0e944bfdc63644f0713938a7f51535c3a35e2"},
	} {
		got := kdf.Mac(c.key, []byte(c.text))
		if len(got) != 32 || hex.EncodeToString(got[:len(c.want)/2]) != c.want {
			t.Errorf("P6.1: Mac of RFC 4231, case %d: %x, want %s", i+1, got, c.want)
		}
	}
}

// macsOfLengths were made by OpenSSL with a key of 1, 4, 7, .. and a text of 2, 7, 12, ..
var macsOfLengths = []struct {
	key, text int
	want      string
}{
	{0, 0, "b613679a0814d9ec772f95d778c35fc5ff1697c493715653c6c712144292c5ad"},
	{0, 1, "4ee7be0c7872360ca67414608081e9bd60fd580a7bbd209701d2a5a0b4316d0d"},
	{0, 64, "3add663b508520bf8effec6160ff4167bc3234fbe38af3434f0bbed3acc29905"},
	{1, 0, "2f8738164025afdddbc18665c6e8f37de9498db7fd194873c61ee30c22192a9a"},
	{1, 64, "7e3c439cfea0e7b9523a5166374991732950b938312c681c4b0df8e238a96f1d"},
	{32, 0, "94d045534085f6a99580ec40963182df1554d0bd4899b636581551f4c09facdb"},
	{32, 64, "b34c3ab0ba7e6f0b129f20f10ad15535f81b0a865e483f50fd7a0d526541ac4e"},
	{63, 0, "a7cb80384f6b2997f89cc598c509a914b1d1bd22bbc9ddaa58112b17dc47c70d"},
	{63, 1, "660740b97928425fe061c8d47a1f9630a63afd4047f7b8196e59d400fc983758"},
	{63, 64, "92ac285253d3ef2b22e973029fe0eaafff8364c5d053b4afde371137c205b67b"},
	{64, 0, "5dd0536b6e7fb1b5ca8abe60e07af7210c2e7f7ba9e70aef82e5fab5f6d47b7f"},
	{64, 1, "90daff3d2d69281797501a7c7b0a92963d0b0873d719a99dcd76f9ade8768df5"},
	{64, 64, "9d0aa7dd932cc7e2718adbeaf3a94b0f7e950d15822e166604a8b6162db3f50e"},
	{65, 0, "e31ef03f320a872a66745a4dc37b38db1cdfd9052b357ff06184a5c3c1b32858"},
	{65, 1, "decc8cc95d9fbeb97c46fb2dca89aa2d83c815ad83a462ed34b288ad32826fd3"},
	{65, 64, "5833a0e0915003e2967108191bec5d62a7194ed7fba27fe53a80deed1947a317"},
	{66, 64, "0c09af241f9d93677ab2b1868f8503a20cb2eee1d503b76206eacb53a32f1e48"},
	{127, 0, "1ff0d465d24a28431a284320f4a1b7f20f6253c2b66c4d25676331fa3019b85a"},
	{128, 64, "3be78c224942c309502cd3a559925d0ac0ca116e9dcb83da98dceb6894ad9566"},
	{129, 1, "ea162baa68ec7f8b342d5e1be7749e5bc9240994d86c7517d851d6f2080c743e"},
	{200, 64, "b8b36bb7e912a95fd26e35abf817869f506bf751a2ae0f44260102a850bfa5a9"},
}

func TestMacOfLengths(t *testing.T) {
	for _, c := range macsOfLengths {
		look(t, "Mac", kdf.Mac(stepped(c.key, 1, 3), stepped(c.text, 2, 5)), c.want)
	}
}

func TestMacOfNil(t *testing.T) {
	look(t, "Mac of nothing", kdf.Mac(nil, nil), macsOfLengths[0].want)
	look(t, "Mac with no key", kdf.Mac(nil, stepped(64, 2, 5)), macsOfLengths[2].want)
	look(t, "Mac of no text", kdf.Mac(stepped(64, 1, 3), nil), macsOfLengths[10].want)
}

func TestMacOfEveryLength(t *testing.T) {
	r := rand.New(rand.NewSource(8))
	for n := range 200 {
		for _, m := range []int{0, 1, 54, 55, 56, 63, 64, 65, r.Intn(500)} {
			key, text := someBytes(r, n), someBytes(r, m)
			h := hmac.New(sha256.New, key)
			h.Write(text)
			look(t, "Mac", kdf.Mac(key, text), hex.EncodeToString(h.Sum(nil)))
		}
	}
}

// TestMacOfLongKey: a key that is longer than a block counts as its sum; one of a block is taken as it is; noughts behind a shorter one make no difference.
func TestMacOfLongKey(t *testing.T) {
	text := []byte("what is told")
	for _, n := range []int{65, 66, 128, 1000} {
		key := stepped(n, 5, 7)
		look(t, "Mac with a long key", kdf.Mac(key, text), hex.EncodeToString(kdf.Mac(kdf.Sum(key), text)))
	}
	key := stepped(64, 5, 7)
	if bytes.Equal(kdf.Mac(key, text), kdf.Mac(kdf.Sum(key), text)) {
		t.Error("P6.1: a key of one block was summed")
	}
	for n := range 64 {
		short := stepped(n, 5, 7)
		filled := append(bytes.Clone(short), make([]byte, 64-n)...)
		look(t, "Mac with noughts behind the key", kdf.Mac(filled, text), hex.EncodeToString(kdf.Mac(short, text)))
	}
}
