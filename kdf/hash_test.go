package kdf_test

import (
	"bytes"
	"crypto/sha256"
	"encoding/binary"
	"encoding/hex"
	"math/rand"
	"testing"

	"strongroom/kdf"
)

// Two secrets; the second has its top bit set.
const (
	lowSecret = "4a5d9d5ba4ce2de1728e3bf480350f25e07e21c947d19e3376f09b3c1e161742"
	topSecret = "95cbde9476e8907d7aade45cb4b873f88b595a68799fa152e6f8f7647aac7957"
)

// framed is a Text, made without the program's own wire.
func framed(b []byte) []byte {
	return append(binary.BigEndian.AppendUint32(nil, uint32(len(b))), b...)
}

// framedNumber is a Mpint, made without the program's own wire.
func framedNumber(k []byte) []byte {
	k = bytes.TrimLeft(k, "\x00")
	if len(k) > 0 && k[0] >= 128 {
		k = append([]byte{0}, k...)
	}
	return framed(k)
}

// parts is a Talk's, in the order in which they are summed up.
type parts [7][]byte

func (p parts) talk() kdf.Talk {
	return kdf.Talk{VC: string(p[0]), VS: string(p[1]), IC: p[2], IS: p[3], KS: p[4], QC: p[5], QS: p[6]}
}

// hash is what Hash must answer, by Go's own sum.
func (p parts) hash(k []byte) string {
	var all []byte
	for _, part := range p {
		all = append(all, framed(part)...)
	}
	sum := sha256.Sum256(append(all, framedNumber(k)...))
	return hex.EncodeToString(sum[:])
}

// wholeTalk is a Talk of which no part is empty and no two are the same.
func wholeTalk() parts {
	return parts{[]byte("SSH-2.0-client"), []byte("SSH-2.0-strongroom"), stepped(40, 20, 7), stepped(50, 20, 11), stepped(51, 0, 13), stepped(32, 9, 17), stepped(32, 130, 19)}
}

// TestHashOfWholeTalk: the answers are sums by OpenSSL of parts that were framed apart from the program.
func TestHashOfWholeTalk(t *testing.T) {
	talk := wholeTalk().talk()
	look(t, "Hash", kdf.Hash(talk, unhex(t, lowSecret)), "361dec86911695b548c9fe751c5d18e6c6908f0b1ebb88d4f7a42a5a211685cc")
	look(t, "Hash with a top bit", kdf.Hash(talk, unhex(t, topSecret)), "fc43baf9b1e02c19377b8118e114adb42319ab4578c714d1a96282a1582e76f7")
	look(t, "Hash without a secret", kdf.Hash(talk, nil), "e749d71137e21ad66a482d3a08f701121c7c6f505726d60fa187095347b0d89d")
}

// TestHashOfNothing: eight empty Texts are 32 noughts.
func TestHashOfNothing(t *testing.T) {
	const want = "66687aadf862bd776c8fc18b8e9f8e20089714856ee233b3902a591d0d5f2925"
	empty := []byte{}
	look(t, "Hash of nothing", kdf.Hash(kdf.Talk{}, nil), want)
	look(t, "Hash of empty parts", kdf.Hash(kdf.Talk{IC: empty, IS: empty, KS: empty, QC: empty, QS: empty}, empty), want)
	look(t, "Hash of the secret 0", kdf.Hash(kdf.Talk{}, make([]byte, 32)), want)
}

// TestHashOfAnEmptyPart: the answers were made in the same way.
func TestHashOfAnEmptyPart(t *testing.T) {
	for i, want := range []string{
		"ed6e8b48f5411d888041535452cf3037ab281036ac7c18f1fab9999dcd33ef71",
		"43b764ec2e1b876f04711d994c155400fb6bba037698c59e2ac233a09eb9fe45",
		"46f8bee8f79fc3fa8a6ff5b0fa2cc3309f5c22a5c3f622a96eec2358ec539897",
		"d54035069ab2bd500aa21bfbc40a7b5681de2442710c7af5ae8266d687032e99",
		"9486add46949fd2d6b9e30a58e027b6c9757916efe24280df98f544a21f1039a",
		"49e51ffb66db5e8e4ce7bff10064bb4319aec9132a79d7079376a279a6f170a8",
		"13d06e03fffe483f87dc20dcee5d383a6d89a661d4a8f9b52a40a5802d613481",
	} {
		for _, empty := range [][]byte{nil, {}} {
			p := wholeTalk()
			p[i] = empty
			look(t, "Hash with an empty part", kdf.Hash(p.talk(), unhex(t, lowSecret)), want)
		}
	}
}

// TestHashOfAChangedPart: each byte of each part counts, and so does where a part ends.
func TestHashOfAChangedPart(t *testing.T) {
	k := unhex(t, topSecret)
	seen := map[string]bool{wholeTalk().hash(k): true}
	see := func(p parts, i int) {
		t.Helper()
		got, want := kdf.Hash(p.talk(), k), p.hash(k)
		look(t, "Hash with a changed part", got, want)
		if seen[string(got)] {
			t.Errorf("P6.1: part %d is the same when changed", i)
		}
		seen[string(got)] = true
	}
	for i := range wholeTalk() {
		for at := range wholeTalk()[i] {
			p := wholeTalk()
			p[i][at] ^= 1
			see(p, i)
		}
		p := wholeTalk()
		p[i] = append(p[i], 0)
		see(p, i)
		if i > 0 {
			// The last byte of a part goes over to the next one.
			p = wholeTalk()
			last := len(p[i-1]) - 1
			p[i] = append([]byte{p[i-1][last]}, p[i]...)
			p[i-1] = p[i-1][:last]
			see(p, i)
			// Two parts change places.
			p = wholeTalk()
			p[i-1], p[i] = p[i], p[i-1]
			see(p, i)
		}
	}
}

// TestHashOfSecrets: noughts ahead make no difference, noughts behind and every other byte do.
func TestHashOfSecrets(t *testing.T) {
	p := wholeTalk()
	for _, secret := range []string{"", "00", "01", "7f", "80", "ff", "0100", "8000", "7fff", "00ff", lowSecret, topSecret} {
		k := unhex(t, secret)
		want := p.hash(k)
		for noughts := range 5 {
			look(t, "Hash with noughts ahead of "+secret, kdf.Hash(p.talk(), append(make([]byte, noughts), k...)), want)
		}
	}
	one, more := kdf.Hash(p.talk(), []byte{1}), kdf.Hash(p.talk(), []byte{1, 0})
	if bytes.Equal(one, more) {
		t.Error("P6.1: a nought behind the secret makes no difference")
	}
}

func TestHashOfMany(t *testing.T) {
	r := rand.New(rand.NewSource(9))
	for range 300 {
		var p parts
		for i := range p {
			p[i] = someBytes(r, r.Intn(90))
		}
		k := someBytes(r, r.Intn(40))
		look(t, "Hash", kdf.Hash(p.talk(), k), p.hash(k))
	}
}

// TestHashOfLongParts: a Text's length takes more than one of its four bytes.
func TestHashOfLongParts(t *testing.T) {
	r := rand.New(rand.NewSource(10))
	for i := range wholeTalk() {
		p := wholeTalk()
		p[i] = someBytes(r, 70000+i)
		look(t, "Hash with a long part", kdf.Hash(p.talk(), unhex(t, lowSecret)), p.hash(unhex(t, lowSecret)))
	}
	p := wholeTalk()
	k := append([]byte{200}, someBytes(r, 66000)...)
	look(t, "Hash with a long secret", kdf.Hash(p.talk(), k), p.hash(k))
}
