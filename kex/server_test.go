package kex_test

import (
	"crypto/ecdh"
	"encoding/binary"
	"fmt"
	"math/rand"
	"slices"
	"testing"

	"strongroom/api"
	"strongroom/kex"
)

// rightInit is Alice's, made by Init.
func rightInit(t *testing.T) []byte {
	t.Helper()
	init, why := kex.Init(unhex(t, aliceKey))
	if why != api.OK {
		t.Fatalf("P10.1: Init: %v", why)
	}
	return init
}

// TestServerOfWrongPrivates: it is refused ahead of all that init may be.
func TestServerOfWrongPrivates(t *testing.T) {
	right := rightInit(t)
	weak := payload(30, make([]byte, 32))
	for _, n := range wrongSizes {
		s := sideOf(stepped(1000, 1, 3)[:n])
		for _, init := range [][]byte{right, nil, {}, right[:36], weak, append(weak, 0)} {
			mustRefuseInit(t, fmt.Sprintf("a private key of %d bytes and %x", n, init), s, init, api.ErrArg)
		}
	}
	mustRefuseInit(t, "no side", kex.Side{}, right, api.ErrArg)
	mustServe(t, "32 bytes", sideOf(stepped(1000, 1, 3)[:32]), right[5:])
}

// TestServerOfBeginnings: the rest stands in the room behind each of them.
func TestServerOfBeginnings(t *testing.T) {
	init := rightInit(t)
	for n := range init {
		mustRefuseInit(t, fmt.Sprintf("the first %d bytes", n), bob(t), init[:n], api.ErrForm)
	}
	mustRefuseInit(t, "nil", bob(t), nil, api.ErrForm)
	mustServe(t, "all bytes", bob(t), init[5:])
}

func TestServerOfMoreBytes(t *testing.T) {
	init := rightInit(t)
	for _, more := range [][]byte{{0}, {1}, {30}, {255}, make([]byte, 4), init[1:], init, make([]byte, 40000)} {
		mustRefuseInit(t, fmt.Sprintf("%d bytes more", len(more)), bob(t), slices.Concat(init, more), api.ErrForm)
		mustRefuseInit(t, fmt.Sprintf("%d bytes ahead", len(more)), bob(t), slices.Concat(more, init), api.ErrForm)
	}
}

func TestServerOfAnotherFirstByte(t *testing.T) {
	for kind := range 256 {
		init := rightInit(t)
		init[0] = byte(kind)
		if kind != 30 {
			mustRefuseInit(t, fmt.Sprintf("the first byte %d", kind), bob(t), init, api.ErrForm)
		}
	}
}

func TestServerOfTextsOfOtherSizes(t *testing.T) {
	for n := range 70 {
		if n != 32 {
			mustRefuseInit(t, fmt.Sprintf("a Text of %d bytes", n), bob(t), payload(30, stepped(n, 9, 5)), api.ErrForm)
		}
	}
	// The U32 says another size than is there.
	for _, size := range []uint32{0, 1, 31, 33, 0x120, 0x10020, 0x1000020, 0x80000020, 1<<31 - 1, 1<<32 - 1, 0x20000000} {
		init := rightInit(t)
		binary.BigEndian.PutUint32(init[1:], size)
		mustRefuseInit(t, fmt.Sprintf("32 bytes that are said to be %d", size), bob(t), init, api.ErrForm)
	}
	mustRefuseInit(t, "two Texts of 16 bytes", bob(t), payload(30, make([]byte, 16), make([]byte, 16)), api.ErrForm)
}

// TestWeakPointsAreWeak: Go's own curve refuses them too.
func TestWeakPointsAreWeak(t *testing.T) {
	for _, point := range weakPoints {
		public, err := ecdh.X25519().NewPublicKey(unhex(t, point))
		if err != nil {
			t.Fatal(err)
		}
		if k, err := privateKey(t, unhex(t, bobKey)).ECDH(public); err == nil {
			t.Errorf("the point %s makes %x", point, k)
		}
	}
}

// TestServerOfWeakPoints: wrong forms of them are refused as such.
func TestServerOfWeakPoints(t *testing.T) {
	for _, point := range weakPoints {
		for _, s := range []kex.Side{bob(t), alice(t), sideOf(make([]byte, 32)), {Private: hostKey(0)}} {
			mustRefuseInit(t, "the weak point "+point, s, payload(30, unhex(t, point)), api.ErrNone)
		}
		mustRefuseInit(t, "a weak point of another kind", bob(t), payload(31, unhex(t, point)), api.ErrForm)
		mustRefuseInit(t, "a weak point with a byte more", bob(t), append(payload(30, unhex(t, point)), 0), api.ErrForm)
	}
}

// TestServerOfOddPoints: the hash is made of the point as it came.
func TestServerOfOddPoints(t *testing.T) {
	for _, point := range oddPoints {
		mustServe(t, "the point "+point, bob(t), unhex(t, point))
		mustServe(t, "the point "+point, sideOf(hostKey(3)), unhex(t, point))
	}
}

// TestServerOfOddPrivates: bits that are set by rule may stand in any way.
func TestServerOfOddPrivates(t *testing.T) {
	for _, private := range [][]byte{make([]byte, 32), slices.Repeat([]byte{255}, 32), slices.Repeat([]byte{0x80}, 32), slices.Repeat([]byte{7}, 32)} {
		mustServe(t, fmt.Sprintf("the private key %x", private), sideOf(private), unhex(t, alicePoint))
	}
}

// TestServerOfEmptyParts: nothing but the private key needs to be there, and nil is as the empty list.
func TestServerOfEmptyParts(t *testing.T) {
	point := unhex(t, alicePoint)
	for _, empty := range [][]byte{nil, {}} {
		s := bob(t)
		s.Pin = empty
		mustServe(t, "no pin", s, point)
		s = bob(t)
		s.IC, s.IS = empty, empty
		mustServe(t, "no lists", s, point)
		mustServe(t, "nothing", kex.Side{Private: unhex(t, bobKey), Pin: empty, IC: empty, IS: empty}, point)
	}
	s := bob(t)
	s.VC, s.VS = "", ""
	mustServe(t, "no versions", s, point)
}

// TestServerOfPins: a pin may have any length; those above 64 bytes are summed up ahead of a Mac.
func TestServerOfPins(t *testing.T) {
	for _, n := range []int{1, 31, 32, 33, 63, 64, 65, 128, 5000} {
		s := bob(t)
		s.Pin = stepped(n, 3, 9)
		mustServe(t, fmt.Sprintf("a pin of %d bytes", n), s, unhex(t, alicePoint))
	}
}

func TestServerOfMany(t *testing.T) {
	r := rand.New(rand.NewSource(2))
	for n := range 100 {
		mustServe(t, fmt.Sprintf("some side %d", n), someSide(r), someBytes(r, 32))
	}
	long := bob(t)
	long.VC, long.IC, long.IS = string(someBytes(r, 70000)), someBytes(r, 66000), someBytes(r, 35000)
	mustServe(t, "long parts", long, unhex(t, alicePoint))
}
