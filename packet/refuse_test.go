package packet_test

import (
	"fmt"
	"slices"
	"testing"

	"strongroom/api"
	"strongroom/packet"
)

// refusal is what one In is fed, as its first packet, and refuses.
type refusal struct {
	way
	bytes []byte
	want  api.Errno
}

func refusals() []refusal {
	plain, sealed := bothWays()[0], bothWays()[1]
	turned := sealed.byHand(0, []byte("payload"))
	turned[9] ^= 4
	return []refusal{
		{plain, head(35001), api.ErrLong},
		{plain, head(1<<32 - 4), api.ErrLong},
		{plain, head(4), api.ErrForm},
		{plain, head(13), api.ErrForm},
		{plain, plain.wrap(0, filled(3, make([]byte, 11), nil)), api.ErrForm},
		{plain, plain.wrap(0, filled(11, make([]byte, 11), nil)), api.ErrForm},
		{sealed, head(35001), api.ErrLong},
		{sealed, head(0), api.ErrForm},
		{sealed, head(12), api.ErrForm},
		{sealed, turned, api.ErrMac},
		{sealed, sealed.wrap(0, filled(3, make([]byte, 7), nil)), api.ErrForm},
		{sealed, sealed.wrap(0, filled(7, make([]byte, 7), nil)), api.ErrForm},
	}
}

// feedDead feeds an In that has refused, which holds nothing of it.
func feedDead(t *testing.T, what string, n *packet.In, b []byte) {
	t.Helper()
	n.Feed(b)
	if n.Held() != 0 {
		t.Errorf("P8.2: %s: %d bytes are held behind a refusal", what, n.Held())
	}
}

// TestRefusalStays: behind the first refusal nothing else comes, whatever is fed and whichever keys are set.
func TestRefusalStays(t *testing.T) {
	for i, c := range refusals() {
		what := fmt.Sprintf("case %d, %s", i, c.name)
		n := c.in()
		n.Feed(c.bytes)
		if n.Held() != len(c.bytes) {
			t.Errorf("P8.2: %s: %d bytes are held ahead of Next, want %d", what, n.Held(), len(c.bytes))
		}
		mustRefuse(t, what, n, c.want)
		for _, other := range refusals() {
			feedDead(t, what, n, other.bytes)
			mustRefuse(t, what+", fed another", n, c.want)
		}
		for count := range uint64(3) {
			feedDead(t, what, n, c.byHand(count, []byte("right")))
			mustRefuse(t, what+", fed a right one", n, c.want)
		}
		for _, key := range wrongKeys() {
			if why := n.Keys(key); why != api.ErrArg {
				t.Errorf("P8.2: %s: Keys of %d bytes: %v", what, len(key), why)
			}
		}
		if why := n.Keys(downKey()); why != api.OK {
			t.Errorf("P8.2: %s: Keys: %v", what, why)
		}
		mustRefuse(t, what+", keys set", n, c.want)
		for count := range uint64(3) {
			feedDead(t, what, n, way{"", downKey()}.byHand(count, []byte("right")))
			mustRefuse(t, what+", fed one of the keys", n, c.want)
		}
		feedDead(t, what, n, nil)
		mustRefuse(t, what+", fed nothing", n, c.want)
	}
}

// TestRefusalInTurn: packets ahead of the wrong one are read first, and what is behind it goes with it.
func TestRefusalInTurn(t *testing.T) {
	for i, c := range refusals() {
		if c.key != nil && len(c.bytes) > 4 {
			continue // Sealed as the first packet, it is none of another place.
		}
		what := fmt.Sprintf("case %d, %s", i, c.name)
		ahead := [][]byte{[]byte("one"), []byte("and another")}
		all, n := []byte(nil), c.in()
		for count, payload := range ahead {
			all = append(all, c.byHand(uint64(count), payload)...)
		}
		all = slices.Concat(all, c.bytes, c.byHand(2, []byte("behind")), c.byHand(3, []byte("behind")))
		n.Feed(all)
		held := len(all)
		for count, payload := range ahead {
			held -= len(c.byHand(uint64(count), payload))
			mustRead(t, what, n, payload, held)
		}
		mustRefuse(t, what, n, c.want)
	}
}

// TestInKeysRefuses: a refused key changes nothing, neither where packets are plain nor where an earlier key is.
func TestInKeysRefuses(t *testing.T) {
	for _, w := range bothWays() {
		n := w.in()
		for count, key := range wrongKeys() {
			b := w.byHand(uint64(count), []byte("goes on"))
			n.Feed(b[:7])
			if why := n.Keys(key); why != api.ErrArg {
				t.Errorf("P8.2: Keys of %d bytes: %v", len(key), why)
			}
			mustWait(t, w.name, n, 7)
			n.Feed(b[7:])
			mustRead(t, w.name, n, []byte("goes on"), 0)
		}
	}
}

// TestInKeysOfNoughts: a key of noughts alone is one, and of several the last one holds.
func TestInKeysOfNoughts(t *testing.T) {
	n := packet.NewIn()
	if why := n.Keys(make([]byte, 32)); why != api.OK {
		t.Errorf("P8.2: Keys: %v", why)
	}
	n.Feed(way{"", make([]byte, 32)}.byHand(0, []byte("sealed")))
	mustRead(t, "noughts", n, []byte("sealed"), 0)
	for _, key := range [][]byte{upKey(), make([]byte, 32), downKey()} {
		n.Keys(key)
	}
	n.Feed(way{"", downKey()}.byHand(1, []byte("sealed")))
	mustRead(t, "the last", n, []byte("sealed"), 0)
}

// TestInKeysBetween: keys are set when the packet ahead is read, and what comes behind is held already.
func TestInKeysBetween(t *testing.T) {
	ways := []way{{"plain", nil}, {"up", upKey()}, {"down", downKey()}, {"up again", upKey()}}
	var all []byte
	for i, w := range ways {
		all = slices.Concat(all, w.byHand(uint64(2*i), []byte(w.name)), w.byHand(uint64(2*i+1), []byte("turn")))
	}
	n := packet.NewIn()
	n.Feed(all)
	held := len(all)
	for i, w := range ways {
		if w.key != nil {
			n.Keys(w.key)
		}
		held -= len(w.byHand(uint64(2*i), []byte(w.name)))
		mustRead(t, w.name, n, []byte(w.name), held)
		held -= len(w.byHand(uint64(2*i+1), []byte("turn")))
		mustRead(t, w.name, n, []byte("turn"), held)
	}
	// Without the turn of keys the next packet is not theirs.
	n.Feed(way{"", downKey()}.byHand(8, []byte("down")))
	mustRefuse(t, "not turned", n, api.ErrMac)
}

// TestInKeysOverBeginning: a packet of which a beginning alone is there is not read yet, so that it is sealed.
func TestInKeysOverBeginning(t *testing.T) {
	w := way{"sealed", upKey()}
	b := w.byHand(0, []byte("sealed"))
	for cut := range b {
		n := packet.NewIn()
		n.Feed(b[:cut])
		n.Keys(w.key)
		mustWait(t, "keys set", n, cut)
		n.Feed(b[cut:])
		mustRead(t, "keys set", n, []byte("sealed"), 0)
	}
	n := packet.NewIn()
	n.Feed(head(12))
	mustWait(t, "L of 12, plain", n, 4)
	n.Keys(w.key)
	mustRefuse(t, "L of 12, sealed", n, api.ErrForm)
}
