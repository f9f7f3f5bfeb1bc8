package kex_test

import (
	"bytes"
	"fmt"
	"math/rand"
	"testing"

	"strongroom/api"
	"strongroom/kex"
)

// rooms keeps lists with room behind each of them that holds marks.
type rooms [][]byte

func (all *rooms) list(b []byte) []byte {
	room := append(bytes.Clone(b), bytes.Repeat([]byte{0xee}, 120)...)
	*all = append(*all, room)
	return room[:len(b)]
}

// side is s with room behind each of its lists.
func (all *rooms) side(s kex.Side) kex.Side {
	s.Private, s.Pin, s.IC, s.IS = all.list(s.Private), all.list(s.Pin), all.list(s.IC), all.list(s.IS)
	return s
}

func (all *rooms) String() string { return string(bytes.Join(*all, nil)) }

// spoil changes all of a list, its spare room too.
func spoil(b []byte) {
	b = b[:cap(b)]
	for i := range b {
		b[i] ^= 0xff
	}
}

func spoilSecret(s kex.Secret) {
	spoil(s.K)
	spoil(s.H)
}

// severalInits are a right one and one for each refusal.
func severalInits(t *testing.T) [][]byte {
	init := rightInit(t)
	return [][]byte{init, init[:36], append(bytes.Clone(init), 0), payload(30, make([]byte, 32)), payload(31, make([]byte, 32)), nil}
}

// severalReplies are a right one and one for each refusal.
func severalReplies(t *testing.T) [][]byte {
	reply := rightReply(t)
	last := bytes.Clone(reply)
	last[108] ^= 1
	return [][]byte{reply, reply[:108], append(bytes.Clone(reply), 0), weakReply(t, alice(t), weakPoints[0]), payload(31, texts(t)[1], texts(t)[1], texts(t)[1]), last, nil}
}

// TestLeavesArguments goes through all calls, refusals too.
func TestLeavesArguments(t *testing.T) {
	for _, private := range [][]byte{unhex(t, aliceKey), hostKey(611), bytes.Repeat([]byte{255}, 32), make([]byte, 31), make([]byte, 33), nil} {
		var all rooms
		s := all.side(sideOf(private))
		inits, replies := severalInits(t), severalReplies(t)
		for i := range inits {
			inits[i] = all.list(inits[i])
		}
		for i := range replies {
			replies[i] = all.list(replies[i])
		}
		secret := kex.Secret{K: all.list([]byte{0, 0, 200, 1}), H: all.list(stepped(32, 1, 1))}
		id := all.list(stepped(32, 1, 3))
		before := all.String()
		b, _ := kex.Init(s.Private)
		spoil(b)
		for _, init := range inits {
			reply, made, _ := kex.Server(s, init)
			spoil(reply)
			spoilSecret(made)
		}
		for _, reply := range replies {
			made, _ := kex.Client(s, reply)
			spoilSecret(made)
		}
		toServer, toClient := kex.Keys(secret, id)
		spoil(toServer)
		spoil(toClient)
		if all.String() != before {
			t.Errorf("R2: the private key %x: an argument was changed or shares an answer's memory", private)
		}
	}
}

// TestKeepsNothing: what was handed in may change when the call is over, and the answer stays.
func TestKeepsNothing(t *testing.T) {
	for i, m := range allMade(t) {
		var all rooms
		init, _ := kex.Init(all.list(unhex(t, aliceKey)))
		reply, served, _ := kex.Server(all.side(sideOf(m.host)), all.list(init))
		got, _ := kex.Client(all.side(alice(t)), all.list(reply))
		secret := m.secret(t)
		toServer, toClient := kex.Keys(kex.Secret{K: all.list(secret.K), H: all.list(secret.H)}, all.list(secret.H))
		for _, room := range all {
			spoil(room)
		}
		if fmt.Sprintf("%x", init) != "1e00000020"+alicePoint || fmt.Sprintf("%x", reply) != m.reply() {
			t.Errorf("R2: host %d: a payload changed with what was handed in: %x, %x", i, init, reply)
		}
		if show(served) != show(secret) || show(got) != show(secret) {
			t.Errorf("R2: host %d: a Secret changed with what was handed in: %s, %s", i, show(served), show(got))
		}
		if fmt.Sprintf("%x %x", toServer, toClient) != m.toServerKey+" "+m.toClientKey {
			t.Errorf("R2: host %d: keys changed with what was handed in: %x, %x", i, toServer, toClient)
		}
	}
}

// TestReadsNoRoom: what stands behind the lists counts for nothing.
func TestReadsNoRoom(t *testing.T) {
	r := rand.New(rand.NewSource(8))
	for range 20 {
		var all rooms
		s := all.side(someSide(r))
		point := someBytes(r, 32)
		mustServe(t, "lists with room behind", s, point)
		mustAccept(t, "lists with room behind", s, point)
		mustKey(t, "lists with room behind", kex.Secret{K: all.list(point), H: all.list(s.Private)}, all.list(point))
		mustInit(t, s.Private, payload(30, pointOf(t, bytes.Clone(s.Private))))
	}
}

// TestOfOneList: all lists may lie in one, each in the room behind another, and are still read as they were.
func TestOfOneList(t *testing.T) {
	list := someBytes(rand.New(rand.NewSource(9)), 200)
	before := string(list)
	for n := range 60 {
		s := kex.Side{Private: list[n : n+32], Pin: list[:n], VC: "c", VS: "s", IC: list[n:], IS: list[:n+32]}
		mustServe(t, "one list", s, list[n+1:n+33])
		mustAccept(t, "one list", s, list[n+1:n+33])
		mustKey(t, "one list", kex.Secret{K: list[n:], H: list[:n]}, list)
	}
	if string(list) != before {
		t.Error("R2: an argument was changed")
	}
}

// answers is all lists that the calls answer, of a K with and without noughts ahead: those of one call stand together.
func answers(t *testing.T) [][][]byte {
	t.Helper()
	init, why := kex.Init(unhex(t, aliceKey))
	all := [][][]byte{{init}}
	for _, n := range []uint32{0, 611, 125053} {
		reply, served, whyServer := kex.Server(sideOf(hostKey(n)), rightInit(t))
		got, whyClient := kex.Client(alice(t), bytes.Clone(reply))
		toServer, toClient := kex.Keys(got, got.H)
		if why != api.OK || whyServer != api.OK || whyClient != api.OK {
			t.Fatalf("P10.1, P10.2: %v, %v, %v", why, whyServer, whyClient)
		}
		all = append(all, [][]byte{reply, served.K, served.H}, [][]byte{got.K, got.H}, [][]byte{toServer, toClient})
	}
	return all
}

// TestIsNewMemory changes each list of each answer, its spare room too, and looks whether another one changes.
func TestIsNewMemory(t *testing.T) {
	want := fmt.Sprintf("%x", answers(t))
	kept := answers(t)
	for i, call := range answers(t) {
		for j := range call {
			changed := answers(t)
			spoil(changed[i][j])
			changed[i][j] = kept[i][j]
			if fmt.Sprintf("%x", changed) != want {
				t.Errorf("R2: list %d of answer %d shares memory with another one", j, i)
			}
		}
	}
	if fmt.Sprintf("%x", kept) != want || fmt.Sprintf("%x", answers(t)) != want {
		t.Error("R2: an answer shares memory with what is kept")
	}
}

// TestHangsOnNothingElse: what went ahead, a refusal too, is not kept.
func TestHangsOnNothingElse(t *testing.T) {
	want := fmt.Sprintf("%x", answers(t))
	short := sideOf(make([]byte, 31))
	for _, init := range severalInits(t) {
		kex.Server(bob(t), init)
		kex.Server(short, init)
		kex.Init(init)
		if fmt.Sprintf("%x", answers(t)) != want {
			t.Errorf("R4: behind Server of %x the answers are others", init)
		}
	}
	for _, reply := range severalReplies(t) {
		kex.Client(alice(t), reply)
		kex.Client(short, reply)
		kex.Keys(kex.Secret{K: reply, H: reply}, reply)
		if fmt.Sprintf("%x", answers(t)) != want {
			t.Errorf("R4: behind Client of %x the answers are others", reply)
		}
	}
}
