package curve_test

import (
	"bytes"
	"crypto/ecdh"
	"encoding/hex"
	"math/rand"
	"testing"

	"strongroom/api"
	"strongroom/curve"
)

// unhex is the bytes that a test writes in hexadecimal.
func unhex(t *testing.T, s string) []byte {
	t.Helper()
	b, err := hex.DecodeString(s)
	if err != nil {
		t.Fatal(err)
	}
	return b
}

// someBytes is n bytes that are the same in every run.
func someBytes(r *rand.Rand, n int) []byte {
	b := make([]byte, n)
	r.Read(b)
	return b
}

// small is the 32 bytes of a number below 256.
func small(n byte) []byte {
	b := make([]byte, 32)
	b[0] = n
	return b
}

// mul is what Mul answers to what it may not refuse.
func mul(t *testing.T, scalar, point []byte) []byte {
	t.Helper()
	b, why := curve.Mul(scalar, point)
	if why != api.OK || len(b) != 32 {
		t.Fatalf("P5.1: Mul(%x, %x): %v, %x", scalar, point, why, b)
	}
	return b
}

// base is what Base answers to what it may not refuse.
func base(t *testing.T, scalar []byte) []byte {
	t.Helper()
	b, why := curve.Base(scalar)
	if why != api.OK || len(b) != 32 {
		t.Fatalf("P5.1: Base(%x): %v, %x", scalar, why, b)
	}
	return b
}

// look holds a Mul against the bytes that it must answer.
func look(t *testing.T, what string, scalar, point, want []byte) {
	t.Helper()
	if got := mul(t, scalar, point); !bytes.Equal(got, want) {
		t.Errorf("P5.1: %s: Mul(%x, %x): %x, want %x", what, scalar, point, got, want)
	}
}

// The two of RFC 7748's section 6.1, and what they have in common.
const (
	aliceScalar = "77076d0a7318a57d3c16c17251b26645df4c2f87ebc0992ab177fba51db92c2a"
	alicePoint  = "8520f0098930a754748b7ddcb43ef75a0dbf3a0d26381af4eba4a98eaa9b4e6a"
	bobScalar   = "5dab087e624a8a4b79e17f8b83800ee66f3bb1292618b6fd1c2f8b27ff88e0eb"
	bobPoint    = "de9edb7d7b7dc1b4d35b61c2ece435373f8343c85b78674dadfc7e146f882b4f"
	bothSecret  = "4a5d9d5ba4ce2de1728e3bf480350f25e07e21c947d19e3376f09b3c1e161742"
)

func TestBaseOfSection61(t *testing.T) {
	for _, c := range [][2]string{{aliceScalar, alicePoint}, {bobScalar, bobPoint}} {
		got := base(t, unhex(t, c[0]))
		if hex.EncodeToString(got) != c[1] {
			t.Errorf("P5.1: Base(%s): %x", c[0], got)
		}
		look(t, "the point 9", unhex(t, c[0]), small(9), got)
	}
	// The chapter's run.
	if got := base(t, unhex(t, aliceScalar)); !bytes.HasPrefix(got, unhex(t, "8520f0098930a754")) {
		t.Errorf("P5.1: %x", got)
	}
}

func TestMulOfSection61(t *testing.T) {
	look(t, "6.1", unhex(t, aliceScalar), unhex(t, bobPoint), unhex(t, bothSecret))
	look(t, "6.1", unhex(t, bobScalar), unhex(t, alicePoint), unhex(t, bothSecret))
}

func TestMulOfSection52(t *testing.T) {
	for _, c := range [][3]string{
		{"a546e36bf0527c9d3b16154b82465edd62144c0ac1fc5a18506a2244ba449ac4", "e6db6867583030db3594c1a424b15f7c726624ec26b3353b10a903a6d0ab1c4c", "c3da55379de9c6908e94ea4df28d084f32eccf03491c71f754b4075577a28552"},
		// This point has the top bit set.
		{"4b66e9d4d1b4673c5ad22691957d6af5c11b6421e0ea01d42ca4169e7918ba0d", "e5210f12786811d3f4b7959d0538ae2c31dbe7106fc03c3efc4cd549c715a493", "95cbde9476e8907d7aade45cb4b873f88b595a68799fa152e6f8f7647aac7957"},
	} {
		look(t, "5.2", unhex(t, c[0]), unhex(t, c[1]), unhex(t, c[2]))
	}
}

// TestMulAgainAndAgain is the second half of section 5.2: each answer is the next scalar, each scalar the next point.
func TestMulAgainAndAgain(t *testing.T) {
	wants := map[int]string{
		1:    "422c8e7a6227d7bca1350b3e2bb7279f7897b87bb6854b783c60e80311ae3079",
		1000: "684cf59ba83309552800ef566f2f4d3c1c3887c49360e3875f2eb94d99532c51",
	}
	scalar, point := small(9), small(9)
	for n := 1; n <= 1000; n++ {
		scalar, point = mul(t, scalar, point), scalar
		if want, ok := wants[n]; ok && hex.EncodeToString(scalar) != want {
			t.Errorf("P5.1: %d times: %x, want %s", n, scalar, want)
		}
	}
}

// TestMulOfMade has scalars and points that are SHA-256 of texts; the answers are OpenSSL's, as are those of TestMulOfSame.
func TestMulOfMade(t *testing.T) {
	for _, c := range [][3]string{
		{"6bca720ea9daf945bd14f16c0034ea6802914245ebbd365856ea8f415d6fc72e", "de5e5cf1c64a0c2d43896701b6de113c0f99e99bda8d5530fca50f78d8b85f89", "7675e0427d6f057257ef02be5552cbccfcba80b2086740d5d6cffa51a66a066c"},
		{"546c5fc84b702155e7777f565411665ca106736e517b6f74b6d2eedfd7e89cc5", "1ff410c87daaa29be86722a93f7fdbdcfd7c667d542e29762e86ba12b7e39b3a", "fa321d29d1bafbe28d01f332988cf418740402ed3de773193cf529314ba3bd3f"},
		{"e80489af94ad66fe21bb822a9a24dc14e58bc261d7376cf3befc0f87d7036684", "5d74c6758cb7160688ea57609bb81e200a0e9811284b6fc8cc9a83881d708896", "8013d5b2f343cd011501ad02de6a02c5acc5f5d13b44995641a59f690e2a5b44"},
		{"6815f857d13ffc7637437480b7d294b63d19246e4f25b81840fbf94c737fad49", "2d1052204822c29bcf8a2b71a1d6a3e3a2ff209d9824309b930dcd623c40163a", "80bb845bd104124f2f89ec127f9f43b4f24e7aa8daa3765a59f3d9ceabe18614"},
		{"d56162a58aecf663eccd04642fc52f992fdaabe5c064a57e454f520829d9488c", "68b7c16d2e900bd498e0c766f29e9fd3137ab4f32815f323e6bfbd7500e2210b", "082d8e7c43f2afdf9cdea8bcaa70882be3ac6425c0fe1e5057f1ced5273aeb00"},
		{"60fa4f75ef5ba6c42df0b35fc2a0ece0dd6a3d011af0c2573208051f27bf0757", "e0a262f5e19a2000bf8adadfa728f90c6684e22a4e2026846da7e03e993e54d9", "b4aa2622cc8c346e1653ec57365c74d72567520eb904a156a12c35cd5668b92e"},
		{"ad7bc55ad77a76a03e40f1c1c8a964bc909e5892728b8842e72e584b8efbabda", "f483d37c4bc1fd075f89c9c8a1ae3242631a51c572f3c71a418462d7b49cc32e", "5911695452bac5c394a8304585c4155d33376871732157d9e0431b6bac125a22"},
		{"7efc234c80ba079b0e4789ab4e961b415a80951be4a73f92139d3dd2bd3f37ea", "a8bda027d65a23d1df05cd748a254d23f751d8eeec4f37676d1bece14f358e26", "307f0c29559f11f33f80cbea8e20618df54e96794046ad01cff27d033506c226"},
		{"78d53e748d43ed1f772232f88298d6f2115349432b546142042a091b669c21ad", "1445601359044c7a7ab6ea8aed1668ee2056e492945294a759d5a1b706096673", "e82afa533dc6399172348905dfca08d0e479e2fd14665bce38ee87a7a367247f"},
		{"d9f9e2c73dee657ca6d3bfa37ca461e78526330b8283ce25b8f7e7fc943f3773", "d817e7192a67f447b7726a1731922e0b6886cc3914aae690ab73af624de2088b", "67c8b5a0b2f14ee750ec2d3ba330c7fa7e1ee60b849027767d993eb7891a1f01"},
		{"e33f3854864c2354d5365eb4e48c5e7079388a6d02effe30e1c8836dcd1a8c0c", "3cf94461a6c5bd5660a4da6d2b9774bfe9881ac72a4d235c98f6b3f1c369d82d", "1b65b2c0a82bbacb07dc9ef7dd8ed4d7888a3c1d1077c84d06939ba8482f7d01"},
		{"8e2c80b4eaba0077e86f8761b3e17bc410b42d03b9fbc93e05d9771669f0e764", "800cf34359f4989ce92a0279a2b2434217fc62a33e64cfa3ab47d8f7172e8e76", "a0582f68a3448380dbc3b6f6c5dc939930fbf093af8f85fdcbc77c5ada832f4a"},
		{"12435990aaafeda37b7696c9d91eede3e29f5a89a3517e8f9006ee1b9778f58e", "7e2b17af35775dc4c38602c67e1c1cc89dcef55b5cfa62d0f9918a8938bf3cd1", "1cea7dd567c04dbf6a10db22be623785f384c751e1dbd63669cdb5d133177a38"},
		{"d16c4dc0cde9907918544b849af88291e4d8cfa986f7a0fbb37dd3fb214378c0", "4e0b11f0a203b28e761ce09e0e2d28a8e705e4c784f6c46ae100ebf27f4eeccc", "204f2155eabc9074117bd1661fce00bb331e00430d55d506c1cb334f7d90f83c"},
		{"57a67cc3774dd89af8fe0c0831572d5d0dafcf76e88264b43a63393b7bb7881e", "a178150936fd8596a7fe03d51ac7a22ec7b958b79b306d83f17f83cdcdf3d3ee", "e5345df207dcb54364ec15f1ab532c5d5cbe5a5b2baf7163686aaba6ee603f01"},
		{"7ae6725f2d809f9c27d53de2ff6e36cb745c062f0c50c32b39c60c15e304849b", "0eea42d1873ae5972f529b042dc28b29facf743c27ad4a8e612c1b35aeb471a7", "ceee5c553459880e6dff8cfeb964073bbc4aead3ad76466d5163d4162d419254"},
		{"7f18a0dbc70189d4a5274aa7e151c1435dc2e70589ff49da21df9255880dafb0", "0a8a55fa866d73669c56947d62dd6d62fe6b0a2acaeb829388a2795bde3b7562", "0504864b69153d797d17c8cd20a9c63adf7d474b3cce19f673159cbc32839919"},
		{"320c8cdc8da5a8c5fb544075726c2dff404335ed52cb3db7d5aa7a98e0ba77db", "d99bac588bc22e85ab912a0ec8c1655cf6c5032c901d4f53a9aaf18a0ede7291", "3c4a4652c2cd363698fff7ef60eaf11d5c3cc9d164d9c81c7204c6e64d534a3c"},
		{"4878c2a2b9541a46f14ae9570cf002ee770aff12e8ca2dbdf687212281f37f28", "b1b55ca52ffa48f35a71d20f7cf8af708505d64c40a5d7ce54c5eaaa6145a05a", "30c0d522b4108131034760328e2dba5e456cf09ceb735246ea07514bd5a70d1b"},
		{"7e7318d1acfefa0fe36ea9dbfb56aeb3a5e37215074c6c608db29f6d21f21f9e", "f7ed58ca4bad61282ff208048d0872751b791dabfc00a88bea657d6a22b95f91", "2cb43bb691ca62f342be353f91b0b09a71c3301be8a59dfc802dc2251ff23b2f"},
		{"4f87eaee03568038283cd03eb64490922797f63cef56f049f83b7fc71d7d16fd", "6eb58624905f6029ac60b4d3b34536aca0bb0a73e22f1a4e48c7261951ceebb9", "08db4ead404b2122056d6da87240865b2a02229a1e9f685911a9d80206947229"},
		{"739b5e56c3192d20bd369ba00f59f65a2fc28a39aa4bcb74d6476e4f5337ce38", "7f640d7e9591a813f1a68f834f38a8c49ac7d2893c33ca3544b18ca5d5ba05b6", "a1c78ac900312ae87e99987fb1d16e2e4522e96f61452c4eb293eca4e5c2f01f"},
		{"99459514f507ca6f2eeed773a026cb74d4fe79b6c713343bb3c457dfc9ddc110", "b32722fd3d277c61148387ca562a235e5b4fd91e805f3876e18ee98706762672", "14cb2d7f332711cdd4191c696c9fedc84e0bcc420f7a64e4f8aec3b157f7b42f"},
		{"428aad5d72db4dbe2ba65ee3354517979cbde66b77ab31d780ee7886a847c78e", "ae5c8ba0ea7f0914205995c59e7216e9f8e9f0511f191ab0d0df3bc3bd577cdf", "b5d92e53bd137b8a1d016fbeda0c20bf396f345da721e9b33e108e305ce45611"},
	} {
		look(t, "OpenSSL", unhex(t, c[0]), unhex(t, c[1]), unhex(t, c[2]))
	}
}

// TestMulOfSame has lists of which all bytes are the same.
func TestMulOfSame(t *testing.T) {
	noughts, ones := make([]byte, 32), bytes.Repeat([]byte{255}, 32)
	look(t, "all 255", ones, ones, unhex(t, "96186d56afdbfeda62f0d07168fa8b142b3d8530e9705fd818cfd33591ea927f"))
	look(t, "a scalar of 255", ones, small(9), unhex(t, "847c0d2c375234f365e660955187a3735a0f7613d1609d3a6a4d8c53aeaa5a22"))
	look(t, "a scalar of noughts", noughts, small(9), unhex(t, "2fe57da347cd62431528daac5fbb290730fff684afc4cfc2ed90995f58cb3b74"))
	look(t, "a point of 255", noughts, ones, unhex(t, "b32d1362c248d62fe62619cff04dd43db73ffc1b6308ede30b78d87380f1e834"))
	look(t, "all noughts", noughts, noughts, noughts)
	look(t, "a point of noughts", ones, noughts, noughts)
	for _, scalar := range [][]byte{noughts, ones} {
		if got := base(t, scalar); !bytes.Equal(got, mul(t, scalar, small(9))) {
			t.Errorf("P5.1: Base(%x): %x", scalar, got)
		}
	}
}

// TestMulOfMany holds answers against those of the library.
func TestMulOfMany(t *testing.T) {
	r := rand.New(rand.NewSource(1))
	for range 500 {
		scalar, point := someBytes(r, 32), someBytes(r, 32)
		key, err := ecdh.X25519().NewPrivateKey(scalar)
		if err != nil {
			t.Fatal(err)
		}
		other, err := ecdh.X25519().NewPublicKey(point)
		if err != nil {
			t.Fatal(err)
		}
		want, err := key.ECDH(other)
		if err != nil {
			t.Fatal(err)
		}
		look(t, "the library", scalar, point, want)
		if got := base(t, scalar); !bytes.Equal(got, key.PublicKey().Bytes()) {
			t.Errorf("P5.1: Base(%x): %x", scalar, got)
		}
	}
}
