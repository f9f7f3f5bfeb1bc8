package packet_test

import (
	"bytes"
	"encoding/binary"
	"encoding/hex"
	"math/rand"
	"slices"
	"testing"

	"strongroom/aead"
	"strongroom/api"
	"strongroom/packet"
)

// unhex is the bytes that a test writes in hexadecimal.
func unhex(t *testing.T, s string) []byte {
	t.Helper()
	b, err := hex.DecodeString(s)
	if err != nil {
		t.Fatal(err)
	}
	return b
}

// someBytes is n bytes that look like nothing.
func someBytes(r *rand.Rand, n int) []byte {
	b := make([]byte, n)
	r.Read(b)
	return b
}

// upKey is the bytes from 0 on, downKey those from 255 downwards.
func upKey() []byte {
	key := make([]byte, 32)
	for i := range key {
		key[i] = byte(i)
	}
	return key
}

func downKey() []byte {
	key := make([]byte, 32)
	for i := range key {
		key[i] = byte(255 - i)
	}
	return key
}

// wrongKeys have not 32 bytes, some with right bytes in the room behind them.
func wrongKeys() [][]byte {
	keys := [][]byte{nil, {}, upKey()[:0], upKey()[:31], append(upKey(), 32)}
	for _, n := range []int{1, 8, 12, 16, 24, 31, 33, 48, 64, 1000} {
		keys = append(keys, make([]byte, n))
	}
	return keys
}

// way is how packets go: plain without a key, else sealed by it.
type way struct {
	name string
	key  []byte
}

func bothWays() []way { return []way{{"plain", nil}, {"sealed", upKey()}} }

func (w way) out() *packet.Out {
	o := packet.NewOut()
	if w.key != nil {
		o.Keys(w.key)
	}
	return o
}

func (w way) in() *packet.In {
	n := packet.NewIn()
	if w.key != nil {
		n.Keys(w.key)
	}
	return n
}

// head is the U32 of a length.
func head(length int) []byte { return binary.BigEndian.AppendUint32(nil, uint32(length)) }

// wrap is the packet of these bytes behind the head, whatever they are, as the one behind count others.
func (w way) wrap(count uint64, body []byte) []byte {
	if w.key == nil {
		return slices.Concat(head(len(body)), body)
	}
	sealed, _ := aead.Seal(w.key, binary.BigEndian.AppendUint64(make([]byte, 4), count), head(len(body)), body)
	return slices.Concat(head(len(body)), sealed)
}

// fewest is how many noughts a payload of that many bytes needs: 4, and up to 7 more by which what is counted is a multiple of 8.
func (w way) fewest(n int) int {
	counted := 1 + n + 4
	if w.key == nil {
		counted += 4
	}
	return 4 + (8-counted%8)%8
}

// byHand is the packet that must come of a payload behind count others.
func (w way) byHand(count uint64, payload []byte) []byte {
	noughts := w.fewest(len(payload))
	return w.wrap(count, filled(noughts, payload, make([]byte, noughts)))
}

// filled is a packet's bytes behind the head.
func filled(told int, payload, last []byte) []byte {
	return slices.Concat([]byte{byte(told)}, payload, last)
}

// mustPacket asks for a packet that is held against the one by hand.
func mustPacket(t *testing.T, o *packet.Out, w way, count uint64, payload []byte) {
	t.Helper()
	b, why := o.Packet(payload)
	if why != api.OK || !bytes.Equal(b, w.byHand(count, payload)) {
		t.Errorf("P8.1: %s, %d bytes behind %d packets: %v, %d bytes %x..", w.name, len(payload), count, why, len(b), b[:min(len(b), 40)])
	}
}

// mustRead asks Next for a payload, and Held for what is left then.
func mustRead(t *testing.T, what string, n *packet.In, want []byte, held int) {
	t.Helper()
	b, ok, why := n.Next()
	if !ok || why != api.OK || !bytes.Equal(b, want) {
		t.Errorf("P8.2: %s: %d bytes, %v, %v; want %d bytes", what, len(b), ok, why, len(want))
	}
	if n.Held() != held {
		t.Errorf("P8.2: %s: %d bytes are held, want %d", what, n.Held(), held)
	}
}

// mustWait asks Next twice, which must answer nothing and refuse nothing.
func mustWait(t *testing.T, what string, n *packet.In, held int) {
	t.Helper()
	for range 2 {
		if b, ok, why := n.Next(); len(b) != 0 || ok || why != api.OK || n.Held() != held {
			t.Errorf("P8.2: %s: %d bytes, %v, %v, %d bytes are held, want none and %d", what, len(b), ok, why, n.Held(), held)
		}
	}
}

// mustRefuse asks Next twice, which must refuse the same.
func mustRefuse(t *testing.T, what string, n *packet.In, want api.Errno) {
	t.Helper()
	for range 2 {
		if b, ok, why := n.Next(); len(b) != 0 || ok || why != want || n.Held() != 0 {
			t.Errorf("P8.2: %s: %d bytes, %v, %d, %d bytes are held, want %d", what, len(b), ok, why, n.Held(), want)
		}
	}
}
