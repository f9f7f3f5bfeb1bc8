package kex_test

import (
	"bytes"
	"encoding/hex"
	"testing"

	"strongroom/api"
	"strongroom/kex"
)

const pinsPrint = "41ef4bb0b23661e66301aac36066912dac037827b4ae63a7b1165a5aa93ed4eb"

// made is what OpenSSL made of an exchange of Alice and a host: its point, K, H, the Mac of H, and both keys with H as id; the parts were framed apart from the program.
type made struct {
	host                     []byte
	point, k, h, proof       string
	toServerKey, toClientKey string
}

// allMade has K of all shapes: without noughts ahead, with one and two, with and without a top bit behind them, and with a nought at its end, which stays.
func allMade(t *testing.T) []made {
	return []made{
		{unhex(t, bobKey),
			"de9edb7d7b7dc1b4d35b61c2ece435373f8343c85b78674dadfc7e146f882b4f",
			"4a5d9d5ba4ce2de1728e3bf480350f25e07e21c947d19e3376f09b3c1e161742",
			"5d56ed6ac052cee138d201a062fd6fce2ed65c0ea59bdd2b32bb837f5cc65581",
			"0c524c6e7f6f081a2528f067397d16c72308eb8775a4e3048147d407604b561e",
			"0116baf1745e3169b7e21c3bb945a8df4599d63df225b8f402d2732341dae6fa",
			"4ca538a83c8bba08a953ac1d86d0b2267ddf6b3c04b79dab47c664c9db5f2065"},
		{hostKey(0),
			"1372bba9d29111cb2f001ab1b910c720911a8c8275a551ea470570f740727468",
			"af9a91256bf280cf285dd3a2acae66192e792df038ae1b1d40ad7dd8709bdd45",
			"cc8b807651054fcb7b94be051440db50be2ca05f8b6104b0e7a183d999370786",
			"4f4ad327f084cb7ee4d19145789af218f13331d0ec114f911c1e87a757e62b00",
			"2ee2ef5263a8a7d81eb7f9d65d499fe3aedf74513a0b00a0141343526614090c",
			"8e1ddc717c28e58f74e522eddf750c149361e0a4750c27916bebb02be82ab503"},
		{hostKey(26),
			"198d8bc52a96fbf5b7cd3c2040008946902ef39e318fed5d37d84ee1f07be339",
			"fa10e3d7e1df5013929155aedd2af8ce291befc583223a65ef8531e6ed6a8300",
			"3ffdb328bf33dea4567f9f336a6b8bdfe74fe3161cde6b8fa24a61572fe17885",
			"a64a949fa5a326ba95278c698f442649a05e73641303e88eade6265ea890c7fd",
			"078bded589329acb42e0367fdc91494bb4b0fe1ba9c90a3efbc651665e42903f",
			"cb8e27cd1938651146f756573cabc44c6c50fb91549f8c226ff94c512c486c91"},
		{hostKey(611),
			"f2a2a6fbccb3b2b233f929aa5f18a499ac0d74c8712dd2fae815253e00982357",
			"bcb15212dc10a816e804209c3174f88aa7d3a86290742aad020f7bbea4eb71",
			"1dea9a21f67e16f750902a3f812e8250f511cc2e6d093f4494233f089cecbfc6",
			"2da19e4e8852d01eff61f24c4c130539765a4f27891e2c0bda4e8712f6c8fd46",
			"125b3e520968ed4fa23ba56947318f73ba631acafbba090e1c30a900fb0cee57",
			"596d689b811eba532b7f112d5c71260329ba8422b5025ab4ac4903aec4e3d888"},
		{hostKey(994),
			"29eb8dba0783e433635668243a878d74d8e091cdad434139760ad2418bde7019",
			"1fb912f8ab6f05e221e8ec172f6965e4710705375c58b26eb02d4578e4db24",
			"2d24e79170a6b217b4c3df01cb3cea7343413c2cc5fa8e38b5550ab91162d94c",
			"a0408f73da9e77acb104638ce9a4ba3d66e3eb695e14b66fe9d9dedd13390c1c",
			"898d60865ec54f0b79066747eddce8bf37f67f1d9c59d5a30e39e4b1a5b00b46",
			"7f76ae5db2e8f8952f3f5fa55bb45b8591d604b1bcfdb23343dc3f2dbd0c811c"},
		{hostKey(125053),
			"bfeea0d0e565946186bfe9cfb353cd59133c4ee620706118863daa4fa988485a",
			"f826fbeb9efe8ce22fbd2147643a535ae50b2521f9445b9360fda892505e",
			"df6dad6a7ad31cd5dc722fc87cc801d2dbff3c43dc70a78d84af8ef76183488e",
			"599a2b3de0aca3cd5009dfc2714c15337b839d6f95c51c0cab59f8009d983a0e",
			"0ea3dd4e84794aa6397962c8b47514243fc5a8fec3f03121f2e91b513ea83fb0",
			"2e49892c2f20055709accc36cdb7c469916be30a23c43868bd611763f6ec8a06"},
		{hostKey(163810),
			"992c778085be4c64fca98f4ca723f0e2332553657a04681bd0c9507454824970",
			"2997b2fb11ef47d85e88425cdc59c62428f9f76c346fdad9a272dee11e73",
			"2f1c7a1167ee5cd7c0729eaa52abb007e052a3629a1a7f74a1ebcc40c402e680",
			"756ac73f4c94bfe0c80344772cb4ebec557f174939718c264778d901886e382b",
			"2c88bb42c7d296aabf1e2af8084d7e1a26a285cd96578c892fd84c904d2ec5e7",
			"2b9a7776920c2bc79b68554065c2746c394df0fd23376d6439a0b16d7d082f3b"},
	}
}

func (m made) reply() string {
	return "1f00000020" + pinsPrint + "00000020" + m.point + "00000020" + m.proof
}

func (m made) secret(t *testing.T) kex.Secret {
	t.Helper()
	return kex.Secret{K: unhex(t, m.k), H: unhex(t, m.h)}
}

func TestServerOfOpenSSL(t *testing.T) {
	init := unhex(t, "1e00000020"+alicePoint)
	for i, m := range allMade(t) {
		reply, secret, why := kex.Server(sideOf(m.host), init)
		if why != api.OK || hex.EncodeToString(reply) != m.reply() || show(secret) != show(m.secret(t)) {
			t.Errorf("P10.1: host %d: %v, %x, %s; want %s, %s", i, why, reply, show(secret), m.reply(), show(m.secret(t)))
		}
	}
}

func TestClientOfOpenSSL(t *testing.T) {
	for i, m := range allMade(t) {
		secret, why := kex.Client(alice(t), unhex(t, m.reply()))
		if why != api.OK || show(secret) != show(m.secret(t)) {
			t.Errorf("P10.2: host %d: %v, %s; want %s", i, why, show(secret), show(m.secret(t)))
		}
	}
}

func TestKeysOfOpenSSL(t *testing.T) {
	for i, m := range allMade(t) {
		secret := m.secret(t)
		toServer, toClient := kex.Keys(secret, secret.H)
		if !bytes.Equal(toServer, unhex(t, m.toServerKey)) || !bytes.Equal(toClient, unhex(t, m.toClientKey)) {
			t.Errorf("P10.2: Keys of host %d: %x, %x; want %s, %s", i, toServer, toClient, m.toServerKey, m.toClientKey)
		}
	}
}
