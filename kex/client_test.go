package kex_test

import (
	"encoding/binary"
	"fmt"
	"math/rand"
	"slices"
	"testing"

	"strongroom/api"
	"strongroom/kex"
)

// The places of a reply's three Texts, each with a U32 ahead of it.
var textPlaces = []int{5, 41, 77}

// rightReply is Bob's to Alice, made by Server.
func rightReply(t *testing.T) []byte {
	t.Helper()
	reply, _, why := kex.Server(bob(t), rightInit(t))
	if why != api.OK {
		t.Fatalf("P10.1: Server: %v", why)
	}
	return reply
}

// texts is the three Texts of a right reply.
func texts(t *testing.T) [][]byte {
	t.Helper()
	reply := rightReply(t)
	var all [][]byte
	for _, at := range textPlaces {
		all = append(all, reply[at:at+32:at+32])
	}
	return all
}

// weakReply is one that a host that has the pin makes of a weak point: all but the point is right.
func weakReply(t *testing.T, s kex.Side, point string) []byte {
	t.Helper()
	return replyOf(s.Pin, unhex(t, point), hashOf(s, pointOf(t, s.Private), unhex(t, point), nil))
}

// TestClientOfWrongPrivates: it is refused ahead of all that the reply may be.
func TestClientOfWrongPrivates(t *testing.T) {
	right := rightReply(t)
	for _, n := range wrongSizes {
		s := sideOf(stepped(1000, 1, 3)[:n])
		other := s
		other.Pin = []byte("another")
		for _, reply := range [][]byte{right, nil, {}, right[:108], payload(31, sum(s.Pin), make([]byte, 32), make([]byte, 32))} {
			mustRefuseReply(t, fmt.Sprintf("a private key of %d bytes", n), s, reply, api.ErrArg)
			mustRefuseReply(t, fmt.Sprintf("a private key of %d bytes and another pin", n), other, reply, api.ErrArg)
		}
	}
	mustRefuseReply(t, "no side", kex.Side{}, right, api.ErrArg)
	mustAccept(t, "32 bytes", sideOf(stepped(1000, 1, 3)[:32]), pointOf(t, unhex(t, bobKey)))
}

// TestClientOfBeginnings: the rest stands in the room behind each of them.
func TestClientOfBeginnings(t *testing.T) {
	reply := rightReply(t)
	for n := range reply {
		mustRefuseReply(t, fmt.Sprintf("the first %d bytes", n), alice(t), reply[:n], api.ErrForm)
	}
	mustRefuseReply(t, "nil", alice(t), nil, api.ErrForm)
	if secret, why := kex.Client(alice(t), reply); why != api.OK || len(secret.K) != 32 || len(secret.H) != 32 {
		t.Errorf("P10.2: Client of all bytes: %v, %s", why, show(secret))
	}
}

func TestClientOfMoreBytes(t *testing.T) {
	reply := rightReply(t)
	for _, more := range [][]byte{{0}, {1}, {31}, {255}, make([]byte, 4), reply[73:], reply, make([]byte, 40000)} {
		mustRefuseReply(t, fmt.Sprintf("%d bytes more", len(more)), alice(t), slices.Concat(reply, more), api.ErrForm)
		mustRefuseReply(t, fmt.Sprintf("%d bytes ahead", len(more)), alice(t), slices.Concat(more, reply), api.ErrForm)
	}
}

func TestClientOfAnotherFirstByte(t *testing.T) {
	reply := rightReply(t)
	for kind := range 256 {
		reply[0] = byte(kind)
		if kind != 31 {
			mustRefuseReply(t, fmt.Sprintf("the first byte %d", kind), alice(t), reply, api.ErrForm)
		}
	}
}

func TestClientOfTextsOfOtherSizes(t *testing.T) {
	for i := range 3 {
		for n := range 70 {
			all := texts(t)
			if n == 32 {
				continue
			}
			all[i] = append(slices.Clone(all[i]), make([]byte, 40)...)[:n]
			mustRefuseReply(t, fmt.Sprintf("Text %d of %d bytes", i, n), alice(t), payload(31, all...), api.ErrForm)
		}
	}
	// The U32 says another size than is there.
	for _, at := range textPlaces {
		for _, size := range []uint32{0, 1, 31, 33, 0x120, 0x10020, 0x1000020, 0x80000020, 1<<31 - 1, 1<<32 - 1, 0x20000000} {
			reply := rightReply(t)
			binary.BigEndian.PutUint32(reply[at-4:], size)
			mustRefuseReply(t, fmt.Sprintf("a Text at %d that is said to have %d bytes", at, size), alice(t), reply, api.ErrForm)
		}
	}
}

// TestClientOfMovedBytes: the bytes are all there, and so is their sum, but not as three Texts of 32.
func TestClientOfMovedBytes(t *testing.T) {
	one := texts(t)
	all := slices.Concat(one...)
	for _, cuts := range [][2]int{{31, 64}, {33, 64}, {32, 63}, {32, 65}, {0, 64}, {64, 96}, {32, 96}} {
		moved := payload(31, all[:cuts[0]], all[cuts[0]:cuts[1]], all[cuts[1]:])
		mustRefuseReply(t, fmt.Sprintf("Texts that end at %v", cuts), alice(t), moved, api.ErrForm)
	}
	mustRefuseReply(t, "two Texts", alice(t), payload(31, one[0], one[1]), api.ErrForm)
	mustRefuseReply(t, "four Texts", alice(t), payload(31, one[0], one[1], one[2], one[2]), api.ErrForm)
	mustRefuseReply(t, "one Text", alice(t), payload(31, all), api.ErrForm)
	mustRefuseReply(t, "Texts in another order", alice(t), payload(31, one[1], one[0], one[2]), api.ErrHost)
	mustRefuseReply(t, "Texts in another order", alice(t), payload(31, one[0], one[2], one[1]), api.ErrHost)
}

// formPlace tells whether the byte there is no byte of a Text.
func formPlace(at int) bool {
	return !slices.ContainsFunc(textPlaces, func(start int) bool { return at >= start && at < start+32 })
}

// TestClientOfTurnedBits: the point's top bit is passed by in the secret, but not in the hash.
func TestClientOfTurnedBits(t *testing.T) {
	reply := rightReply(t)
	for at := range reply {
		want := api.ErrHost
		if formPlace(at) {
			want = api.ErrForm
		}
		for bit := range 8 {
			turned := slices.Clone(reply)
			turned[at] ^= 1 << bit
			mustRefuseReply(t, fmt.Sprintf("bit %d of byte %d turned", bit, at), alice(t), turned, want)
		}
	}
}

// TestClientOfOtherSides: whatever the client has otherwise than the server, it is not the host that was meant.
func TestClientOfOtherSides(t *testing.T) {
	reply := rightReply(t)
	for what, turn := range map[string]func(s *kex.Side){
		"another pin":              func(s *kex.Side) { s.Pin = []byte("open barley") },
		"no pin":                   func(s *kex.Side) { s.Pin = nil },
		"a pin's beginning":        func(s *kex.Side) { s.Pin = s.Pin[:10] },
		"a pin with a nought":      func(s *kex.Side) { s.Pin = append(s.Pin, 0) },
		"a pin's print as pin":     func(s *kex.Side) { s.Pin = sum(s.Pin) },
		"another VC":               func(s *kex.Side) { s.VC = "SSH-2.0-strongclienu" },
		"a longer VC":              func(s *kex.Side) { s.VC += "\x00" },
		"a shorter VC":             func(s *kex.Side) { s.VC = s.VC[:19] },
		"no VC":                    func(s *kex.Side) { s.VC = "" },
		"another VS":               func(s *kex.Side) { s.VS = "SSH-2.0-strongrooM" },
		"a longer VS":              func(s *kex.Side) { s.VS += "\x00" },
		"a shorter VS":             func(s *kex.Side) { s.VS = s.VS[:17] },
		"no VS":                    func(s *kex.Side) { s.VS = "" },
		"VC and VS changed places": func(s *kex.Side) { s.VC, s.VS = s.VS, s.VC },
		"VC's end ahead of VS":     func(s *kex.Side) { s.VC, s.VS = s.VC[:19], s.VC[19:]+s.VS },
		"another IC":               func(s *kex.Side) { s.IC[0] ^= 1 },
		"a longer IC":              func(s *kex.Side) { s.IC = append(s.IC, 0) },
		"a shorter IC":             func(s *kex.Side) { s.IC = s.IC[:39] },
		"no IC":                    func(s *kex.Side) { s.IC = nil },
		"another IS":               func(s *kex.Side) { s.IS[49] ^= 128 },
		"a longer IS":              func(s *kex.Side) { s.IS = append(s.IS, 0) },
		"a shorter IS":             func(s *kex.Side) { s.IS = s.IS[:49] },
		"no IS":                    func(s *kex.Side) { s.IS = nil },
		"IC and IS changed places": func(s *kex.Side) { s.IC, s.IS = s.IS, s.IC },
		"another private key":      func(s *kex.Side) { s.Private = hostKey(1) },
		"the server's private key": func(s *kex.Side) { s.Private = unhex(t, bobKey) },
	} {
		s := alice(t)
		turn(&s)
		mustRefuseReply(t, what, s, reply, api.ErrHost)
	}
}

// TestClientOfForgedReplies: who does not have the pin can show its print, but not make the Mac.
func TestClientOfForgedReplies(t *testing.T) {
	s := alice(t)
	qc, qs := pointOf(t, s.Private), pointOf(t, unhex(t, bobKey))
	k := secretOf(t, s.Private, qs)
	h := hashOf(s, qc, qs, k)
	other := s
	other.Pin = []byte("open barley")
	mustRefuseReply(t, "a Mac by another pin", s, payload(31, sum(s.Pin), qs, mac(other.Pin, h)), api.ErrHost)
	mustRefuseReply(t, "a Mac by the print", s, payload(31, sum(s.Pin), qs, mac(sum(s.Pin), h)), api.ErrHost)
	mustRefuseReply(t, "a Mac by no pin", s, payload(31, sum(s.Pin), qs, mac(nil, h)), api.ErrHost)
	mustRefuseReply(t, "the hash in the Mac's place", s, payload(31, sum(s.Pin), qs, h), api.ErrHost)
	mustRefuseReply(t, "noughts in the Mac's place", s, payload(31, sum(s.Pin), qs, make([]byte, 32)), api.ErrHost)
	mustRefuseReply(t, "another print beside a right Mac", s, payload(31, sum(other.Pin), qs, mac(s.Pin, h)), api.ErrHost)
	mustRefuseReply(t, "a Mac of a hash with another print", s, payload(31, sum(s.Pin), qs, mac(s.Pin, hashOf(other, qc, qs, k))), api.ErrHost)
	mustRefuseReply(t, "a Mac of a hash with points that changed places", s, payload(31, sum(s.Pin), qs, mac(s.Pin, hashOf(s, qs, qc, k))), api.ErrHost)
	mustRefuseReply(t, "a Mac of a hash with another secret", s, payload(31, sum(s.Pin), qs, mac(s.Pin, hashOf(s, qc, qs, qs))), api.ErrHost)
	mustRefuseReply(t, "a reply to another client", s, replyOf(s.Pin, qs, hashOf(s, qs, qs, secretOf(t, unhex(t, bobKey), qs))), api.ErrHost)
	mustAccept(t, "a right reply", s, qs)
}

// TestClientOfPinsThatMacAlike: such pins make the same Macs, and only their prints tell them apart.
func TestClientOfPinsThatMacAlike(t *testing.T) {
	long := stepped(65, 3, 9)
	for _, pins := range [][2][]byte{{[]byte("pin"), []byte("pin\x00")}, {nil, {0}}, {long, sum(long)}} {
		for i := range pins {
			s, other := alice(t), alice(t)
			s.Pin, other.Pin = pins[i], pins[1-i]
			qs := pointOf(t, hostKey(9))
			reply, _ := exchange(other, pointOf(t, s.Private), qs, secretOf(t, s.Private, qs))
			mustRefuseReply(t, fmt.Sprintf("the pin %x that was meant to be %x", other.Pin, s.Pin), s, reply, api.ErrHost)
			mustAccept(t, "its own pin", s, qs)
		}
	}
}

// TestClientOfWeakPoints: not even a right Mac helps.
func TestClientOfWeakPoints(t *testing.T) {
	for _, point := range weakPoints {
		for _, s := range []kex.Side{alice(t), bob(t), sideOf(make([]byte, 32)), {Private: hostKey(0)}} {
			mustRefuseReply(t, "the weak point "+point, s, weakReply(t, s, point), api.ErrNone)
		}
	}
}

// TestClientsFirstRefusal has replies that could be refused in more than one way.
func TestClientsFirstRefusal(t *testing.T) {
	s, other := alice(t), alice(t)
	other.Pin = []byte("another")
	for _, point := range weakPoints {
		weak := weakReply(t, s, point)
		noMac := payload(31, sum(s.Pin), unhex(t, point), make([]byte, 32))
		mustRefuseReply(t, "another pin ahead of a weak point", other, weak, api.ErrHost)
		mustRefuseReply(t, "a weak point ahead of a wrong Mac", s, noMac, api.ErrNone)
		mustRefuseReply(t, "another pin ahead of both", other, noMac, api.ErrHost)
		for _, side := range []kex.Side{s, other} {
			mustRefuseReply(t, "a byte more ahead of all", side, append(slices.Clone(noMac), 0), api.ErrForm)
			mustRefuseReply(t, "a byte fewer ahead of all", side, noMac[:108], api.ErrForm)
			noMac[0] = 30
			mustRefuseReply(t, "the first byte ahead of all", side, noMac, api.ErrForm)
			noMac[0] = 31
		}
	}
	mustRefuseReply(t, "another pin ahead of a wrong Mac", other, rightReply(t), api.ErrHost)
	mustRefuseReply(t, "a cut reply ahead of another pin", other, rightReply(t)[:50], api.ErrForm)
}

// TestClientOfOddPoints: the hash is made of the point as it came.
func TestClientOfOddPoints(t *testing.T) {
	for _, point := range oddPoints {
		mustAccept(t, "the point "+point, alice(t), unhex(t, point))
		mustAccept(t, "the point "+point, sideOf(hostKey(3)), unhex(t, point))
	}
}

// TestClientOfEmptyParts: nothing but the private key needs to be there, and nil is as the empty list.
func TestClientOfEmptyParts(t *testing.T) {
	qs := pointOf(t, unhex(t, bobKey))
	for _, empty := range [][]byte{nil, {}} {
		s := alice(t)
		s.Pin = empty
		mustAccept(t, "no pin", s, qs)
		mustAccept(t, "nothing", kex.Side{Private: unhex(t, aliceKey), Pin: empty, IC: empty, IS: empty}, qs)
	}
}

func TestClientOfMany(t *testing.T) {
	r := rand.New(rand.NewSource(3))
	for n := range 100 {
		mustAccept(t, fmt.Sprintf("some side %d", n), someSide(r), someBytes(r, 32))
	}
	long := alice(t)
	long.VS, long.IC, long.IS = string(someBytes(r, 70000)), someBytes(r, 35000), someBytes(r, 66000)
	mustAccept(t, "long parts", long, pointOf(t, unhex(t, bobKey)))
}

// TestClientOfRubbish: whatever comes, the call ends with one of the chapter's refusals.
func TestClientOfRubbish(t *testing.T) {
	r := rand.New(rand.NewSource(4))
	for range 200 {
		b := someBytes(r, r.Intn(200))
		mustRefuseReply(t, fmt.Sprintf("%x", b), alice(t), b, api.ErrForm)
		mustRefuseInit(t, fmt.Sprintf("%x", b), bob(t), b, api.ErrForm)
	}
}
