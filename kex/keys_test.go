package kex_test

import (
	"bytes"
	"fmt"
	"math/rand"
	"slices"
	"testing"

	"strongroom/kex"
)

// mustKey holds Keys against the sums of C and D.
func mustKey(t *testing.T, what string, s kex.Secret, id []byte) {
	t.Helper()
	toServer, toClient := kex.Keys(s, id)
	if !bytes.Equal(toServer, keyOf(s, 'C', id)) || !bytes.Equal(toClient, keyOf(s, 'D', id)) {
		t.Errorf("P10.2: Keys of %s: %x, %x; want %x, %x", what, toServer, toClient, keyOf(s, 'C', id), keyOf(s, 'D', id))
	}
}

// someSecret is one whose K has its top bit set, and an id that is not its H.
func someSecret() (kex.Secret, []byte) {
	return kex.Secret{K: stepped(32, 200, 3), H: stepped(32, 5, 7)}, stepped(32, 90, 13)
}

func TestKeysSizes(t *testing.T) {
	s, id := someSecret()
	for _, c := range []struct {
		s  kex.Secret
		id []byte
	}{{s, id}, {kex.Secret{}, nil}, {kex.Secret{}, id}, {s, nil}, {kex.Secret{K: make([]byte, 300), H: make([]byte, 300)}, make([]byte, 300)}} {
		toServer, toClient := kex.Keys(c.s, c.id)
		if len(toServer) != 32 || len(toClient) != 32 || bytes.Equal(toServer, toClient) {
			t.Errorf("P10.2: Keys: %x, %x", toServer, toClient)
		}
	}
}

func TestKeysWithNoughtsAhead(t *testing.T) {
	for _, k := range [][]byte{nil, {1}, {127}, {128}, {255}, {1, 0}, stepped(32, 200, 3), stepped(31, 3, 3)} {
		s, id := someSecret()
		s.K = k
		mustKey(t, "a K without noughts ahead", s, id)
		toServer, toClient := kex.Keys(s, id)
		for noughts := 1; noughts < 5; noughts++ {
			s.K = append(make([]byte, noughts), k...)
			mustKey(t, "a K with noughts ahead", s, id)
			if x, y := kex.Keys(s, id); !bytes.Equal(x, toServer) || !bytes.Equal(y, toClient) {
				t.Errorf("P10.2: Keys of %x with %d noughts ahead: %x, %x; want %x, %x", k, noughts, x, y, toServer, toClient)
			}
		}
	}
}

// TestKeysOfChangedParts: each byte of K, H and id makes other keys, and so does a nought behind them.
func TestKeysOfChangedParts(t *testing.T) {
	seen := map[string]int{}
	see := func(what string, s kex.Secret, id []byte) {
		t.Helper()
		mustKey(t, what, s, id)
		toServer, toClient := kex.Keys(s, id)
		seen[string(toServer)]++
		seen[string(toClient)]++
		if seen[string(toServer)] > 1 || seen[string(toClient)] > 1 {
			t.Errorf("P10.2: Keys of %s are those of another secret", what)
		}
	}
	s, id := someSecret()
	see("a secret", s, id)
	for at := range 32 {
		k, h, other := someParts(s, id)
		k[at] ^= 1
		see(fmt.Sprintf("another K at %d", at), kex.Secret{K: k, H: s.H}, id)
		h[at] ^= 1
		see(fmt.Sprintf("another H at %d", at), kex.Secret{K: s.K, H: h}, id)
		other[at] ^= 1
		see(fmt.Sprintf("another id at %d", at), s, other)
	}
	k, h, other := someParts(s, id)
	see("a K with a nought behind", kex.Secret{K: append(k, 0), H: s.H}, id)
	see("an H with a nought behind", kex.Secret{K: s.K, H: append(h, 0)}, id)
	see("an id with a nought behind", s, append(other, 0))
	see("H and id that changed places", kex.Secret{K: s.K, H: id}, s.H)
	see("K and H that changed places", kex.Secret{K: s.H, H: s.K}, id)
	see("H as id", s, s.H)
}

// someParts is copies of all parts.
func someParts(s kex.Secret, id []byte) ([]byte, []byte, []byte) {
	return slices.Clone(s.K), slices.Clone(s.H), slices.Clone(id)
}

// TestKeysOfNothing: nil is as the empty list.
func TestKeysOfNothing(t *testing.T) {
	empty := []byte{}
	mustKey(t, "nothing", kex.Secret{}, nil)
	mustKey(t, "empty lists", kex.Secret{K: empty, H: empty}, empty)
	s, id := someSecret()
	for _, none := range [][]byte{nil, empty} {
		mustKey(t, "no K", kex.Secret{K: none, H: s.H}, id)
		mustKey(t, "no H", kex.Secret{K: s.K, H: none}, id)
		mustKey(t, "no id", s, none)
	}
}

func TestKeysOfMany(t *testing.T) {
	r := rand.New(rand.NewSource(5))
	for n := range 300 {
		s := kex.Secret{K: someBytes(r, r.Intn(40)), H: someBytes(r, r.Intn(80))}
		mustKey(t, fmt.Sprintf("some secret %d", n), s, someBytes(r, r.Intn(80)))
	}
}
