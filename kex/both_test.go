package kex_test

import (
	"bytes"
	"fmt"
	"math/rand"
	"testing"

	"strongroom/api"
	"strongroom/kex"
)

// mustMeet carries what both sides make to one another, and looks whether they have the same Secret and keys.
func mustMeet(t *testing.T, what string, client, server kex.Side) kex.Secret {
	t.Helper()
	init, why := kex.Init(client.Private)
	if why != api.OK {
		t.Fatalf("P10.1: %s: Init: %v", what, why)
	}
	reply, theirs, why := kex.Server(server, init)
	if why != api.OK {
		t.Fatalf("P10.1: %s: Server: %v", what, why)
	}
	mine, why := kex.Client(client, reply)
	if why != api.OK || show(mine) != show(theirs) || len(mine.K) == 0 || mine.K[0] == 0 || len(mine.H) != 32 {
		t.Errorf("P10.3: %s: %v, %s; the server has %s", what, why, show(mine), show(theirs))
	}
	for _, id := range [][]byte{mine.H, nil, []byte("an id")} {
		x, y := kex.Keys(mine, id)
		v, w := kex.Keys(theirs, id)
		if !bytes.Equal(x, v) || !bytes.Equal(y, w) || bytes.Equal(x, y) {
			t.Errorf("P10.3: %s: keys %x, %x; the server has %x, %x", what, x, y, v, w)
		}
	}
	return mine
}

func TestBothMeet(t *testing.T) {
	mustMeet(t, "Alice and Bob", alice(t), bob(t))
	mustMeet(t, "Bob and Alice", bob(t), alice(t))
	mustMeet(t, "Alice and Alice", alice(t), alice(t))
	mustMeet(t, "sides of nothing but private keys", kex.Side{Private: make([]byte, 32)}, kex.Side{Private: hostKey(1)})
	for i, m := range allMade(t) {
		mustMeet(t, fmt.Sprintf("Alice and host %d", i), alice(t), sideOf(m.host))
		mustMeet(t, fmt.Sprintf("host %d and Alice", i), sideOf(m.host), alice(t))
	}
}

func TestManyMeet(t *testing.T) {
	r := rand.New(rand.NewSource(6))
	seen := map[string]bool{}
	for n := range 100 {
		client := someSide(r)
		server := client
		server.Private = someBytes(r, 32)
		secret := mustMeet(t, fmt.Sprintf("pair %d", n), client, server)
		if seen[string(secret.K)] || seen[string(secret.H)] {
			t.Errorf("P10.1: pair %d has a secret of another one", n)
		}
		seen[string(secret.K)], seen[string(secret.H)] = true, true
	}
}

// TestNoughtsAheadMeet: K is shorter by the noughts ahead, and both sides have it so.
func TestNoughtsAheadMeet(t *testing.T) {
	found := map[int]int{}
	for _, n := range []uint32{0, 26, 611, 994, 125053, 163810} {
		found[len(mustMeet(t, fmt.Sprintf("host key %d", n), alice(t), sideOf(hostKey(n))).K)]++
	}
	if found[32] != 2 || found[31] != 2 || found[30] != 2 {
		t.Errorf("P10.3: K of 32, 31 and 30 bytes were found so often: %v", found)
	}
}

// TestStrangersDoNotMeet: sides that differ in one part.
func TestStrangersDoNotMeet(t *testing.T) {
	r := rand.New(rand.NewSource(7))
	for n := range 40 {
		client := someSide(r)
		server := client
		server.Private = someBytes(r, 32)
		more := someBytes(r, 1+r.Intn(3))
		switch n % 5 {
		case 0:
			server.Pin = append(bytes.Clone(server.Pin), more...)
		case 1:
			server.VC += string(more)
		case 2:
			server.VS += string(more)
		case 3:
			server.IC = append(bytes.Clone(server.IC), more...)
		case 4:
			server.IS = append(bytes.Clone(server.IS), more...)
		}
		init, _ := kex.Init(client.Private)
		reply, _, why := kex.Server(server, init)
		if why != api.OK {
			t.Fatalf("P10.1: Server: %v", why)
		}
		mustRefuseReply(t, fmt.Sprintf("stranger %d", n), client, reply, api.ErrHost)
	}
}
