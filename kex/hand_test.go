package kex_test

import (
	"bytes"
	"crypto/ecdh"
	"crypto/hmac"
	"crypto/sha256"
	"encoding/binary"
	"encoding/hex"
	"fmt"
	"math/rand"
	"slices"
	"testing"

	"strongroom/api"
	"strongroom/kex"
)

// The keys of RFC 7748's section 6.1: Alice is the client, Bob the server.
const (
	aliceKey   = "77076d0a7318a57d3c16c17251b26645df4c2f87ebc0992ab177fba51db92c2a"
	alicePoint = "8520f0098930a754748b7ddcb43ef75a0dbf3a0d26381af4eba4a98eaa9b4e6a"
	bobKey     = "5dab087e624a8a4b79e17f8b83800ee66f3bb1292618b6fd1c2f8b27ff88e0eb"
)

// weakPoints make noughts of every private key, and so they do with their top bit set, which is passed by.
var weakPoints = []string{
	"0000000000000000000000000000000000000000000000000000000000000000",
	"0100000000000000000000000000000000000000000000000000000000000000",
	"e0eb7a7c3b41b8ae1656e3faf19fc46ada098deb9c32b1fd866205165f49b800",
	"5f9c95bca3508c24b1d0b1559c83ef5b04445cc4581c8e86d8224eddd09f1157",
	"ecffffffffffffffffffffffffffffffffffffffffffffffffffffffffffff7f",
	"edffffffffffffffffffffffffffffffffffffffffffffffffffffffffffff7f",
	"eeffffffffffffffffffffffffffffffffffffffffffffffffffffffffffff7f",
	"0000000000000000000000000000000000000000000000000000000000000080",
	"0100000000000000000000000000000000000000000000000000000000000080",
	"e0eb7a7c3b41b8ae1656e3faf19fc46ada098deb9c32b1fd866205165f49b880",
	"5f9c95bca3508c24b1d0b1559c83ef5b04445cc4581c8e86d8224eddd09f11d7",
	"ecffffffffffffffffffffffffffffffffffffffffffffffffffffffffffffff",
	"edffffffffffffffffffffffffffffffffffffffffffffffffffffffffffffff",
	"eeffffffffffffffffffffffffffffffffffffffffffffffffffffffffffffff",
}

// oddPoints are right ones that are not written as curve.Base writes them, or lie next to weak ones.
var oddPoints = []string{
	"0200000000000000000000000000000000000000000000000000000000000000",
	"0200000000000000000000000000000000000000000000000000000000000080",
	"0900000000000000000000000000000000000000000000000000000000000080",
	"ebffffffffffffffffffffffffffffffffffffffffffffffffffffffffffff7f",
	"efffffffffffffffffffffffffffffffffffffffffffffffffffffffffffff7f",
	"f6ffffffffffffffffffffffffffffffffffffffffffffffffffffffffffff7f",
	"ffffffffffffffffffffffffffffffffffffffffffffffffffffffffffffff7f",
	"ffffffffffffffffffffffffffffffffffffffffffffffffffffffffffffffff",
	"8520f0098930a754748b7ddcb43ef75a0dbf3a0d26381af4eba4a98eaa9b4eea",
}

func unhex(t *testing.T, s string) []byte {
	t.Helper()
	b, err := hex.DecodeString(s)
	if err != nil {
		t.Fatal(err)
	}
	return b
}

func someBytes(r *rand.Rand, n int) []byte {
	b := make([]byte, n)
	r.Read(b)
	return b
}

// stepped is n bytes from first on, each by step above the one ahead of it.
func stepped(n int, first, step byte) []byte {
	b := make([]byte, n)
	for i := range b {
		b[i] = first + byte(i)*step
	}
	return b
}

// hostKey is the n-th of a row of private keys, out of which those were picked that make odd numbers with Alice's.
func hostKey(n uint32) []byte {
	b := binary.BigEndian.AppendUint32(make([]byte, 8), n)
	return append(b, stepped(20, 0x55, 7)...)
}

// sideOf has what both sides of an exchange have in common, and that private key.
func sideOf(private []byte) kex.Side {
	return kex.Side{
		Private: private,
		Pin:     []byte("open sesame"),
		VC:      "SSH-2.0-strongclient",
		VS:      "SSH-2.0-strongroom",
		IC:      stepped(40, 20, 7),
		IS:      stepped(50, 20, 11),
	}
}

func alice(t *testing.T) kex.Side { t.Helper(); return sideOf(unhex(t, aliceKey)) }
func bob(t *testing.T) kex.Side   { t.Helper(); return sideOf(unhex(t, bobKey)) }

// someSide has parts of any length, also empty ones.
func someSide(r *rand.Rand) kex.Side {
	return kex.Side{
		Private: someBytes(r, 32),
		Pin:     someBytes(r, r.Intn(100)),
		VC:      string(someBytes(r, r.Intn(30))),
		VS:      string(someBytes(r, r.Intn(30))),
		IC:      someBytes(r, r.Intn(300)),
		IS:      someBytes(r, r.Intn(300)),
	}
}

// All that follows works without the program's own packages.

func text(b []byte) []byte {
	return append(binary.BigEndian.AppendUint32(nil, uint32(len(b))), b...)
}

func mpint(k []byte) []byte {
	k = bytes.TrimLeft(k, "\x00")
	if len(k) > 0 && k[0] >= 128 {
		k = append([]byte{0}, k...)
	}
	return text(k)
}

func payload(kind byte, texts ...[]byte) []byte {
	b := []byte{kind}
	for _, one := range texts {
		b = append(b, text(one)...)
	}
	return b
}

func sum(b []byte) []byte {
	all := sha256.Sum256(b)
	return all[:]
}

func mac(key, b []byte) []byte {
	m := hmac.New(sha256.New, key)
	m.Write(b)
	return m.Sum(nil)
}

func privateKey(t *testing.T, private []byte) *ecdh.PrivateKey {
	t.Helper()
	key, err := ecdh.X25519().NewPrivateKey(private)
	if err != nil {
		t.Fatal(err)
	}
	return key
}

// pointOf is what a private key shows.
func pointOf(t *testing.T, private []byte) []byte {
	t.Helper()
	return privateKey(t, private).PublicKey().Bytes()
}

// secretOf is the 32 bytes that a private key makes of a point that is not weak.
func secretOf(t *testing.T, private, point []byte) []byte {
	t.Helper()
	public, err := ecdh.X25519().NewPublicKey(point)
	if err != nil {
		t.Fatal(err)
	}
	k, err := privateKey(t, private).ECDH(public)
	if err != nil {
		t.Fatal(err)
	}
	return k
}

// hashOf is H of what a side has, both points and the secret.
func hashOf(s kex.Side, qc, qs, k []byte) []byte {
	told := slices.Concat(text([]byte(s.VC)), text([]byte(s.VS)), text(s.IC), text(s.IS))
	return sum(slices.Concat(told, text(sum(s.Pin)), text(qc), text(qs), mpint(k)))
}

// replyOf is the reply of who has that pin.
func replyOf(pin, qs, h []byte) []byte { return payload(31, sum(pin), qs, mac(pin, h)) }

// exchange is what must come of an exchange in which the client showed qc and the server qs.
func exchange(s kex.Side, qc, qs, k []byte) ([]byte, kex.Secret) {
	h := hashOf(s, qc, qs, k)
	return replyOf(s.Pin, qs, h), kex.Secret{K: bytes.TrimLeft(k, "\x00"), H: h}
}

// keyOf is what Derive must make.
func keyOf(s kex.Secret, letter byte, id []byte) []byte {
	return sum(slices.Concat(mpint(s.K), s.H, []byte{letter}, id))
}

// show tells all of a Secret, nil and empty lists alike.
func show(s kex.Secret) string { return fmt.Sprintf("K %x, H %x", s.K, s.H) }

// nothing is what stands beside a refusal.
var nothing = show(kex.Secret{})

// mustServe holds Server against what must come of the point.
func mustServe(t *testing.T, what string, s kex.Side, point []byte) {
	t.Helper()
	wantReply, want := exchange(s, point, pointOf(t, s.Private), secretOf(t, s.Private, point))
	reply, secret, why := kex.Server(s, payload(30, point))
	if why != api.OK || !bytes.Equal(reply, wantReply) || show(secret) != show(want) {
		t.Errorf("P10.1: Server of %s: %v, %x, %s; want %x, %s", what, why, reply, show(secret), wantReply, show(want))
	}
}

// mustRefuseInit looks whether Server refuses as it must, and answers nothing beside it.
func mustRefuseInit(t *testing.T, what string, s kex.Side, init []byte, want api.Errno) {
	t.Helper()
	if reply, secret, why := kex.Server(s, init); why != want || len(reply) != 0 || show(secret) != nothing {
		t.Errorf("P10.1: Server of %s: %v, %x, %s; want %v", what, why, reply, show(secret), want)
	}
}

// mustAccept looks whether Client answers the secret that must come of a reply of who has the pin.
func mustAccept(t *testing.T, what string, s kex.Side, point []byte) {
	t.Helper()
	reply, want := exchange(s, pointOf(t, s.Private), point, secretOf(t, s.Private, point))
	if secret, why := kex.Client(s, reply); why != api.OK || show(secret) != show(want) {
		t.Errorf("P10.2: Client of %s: %v, %s; want %s", what, why, show(secret), show(want))
	}
}

// mustRefuseReply looks whether Client refuses as it must, and answers nothing beside it.
func mustRefuseReply(t *testing.T, what string, s kex.Side, reply []byte, want api.Errno) {
	t.Helper()
	if secret, why := kex.Client(s, reply); why != want || show(secret) != nothing {
		t.Errorf("P10.2: Client of %s: %v, %s; want %v", what, why, show(secret), want)
	}
}
