package packet_test

import (
	"bytes"
	"math/rand"
	"testing"

	"strongroom/packet"
)

// rooms keeps lists with room behind each of them that holds marks.
type rooms [][]byte

func (all *rooms) list(b []byte) []byte {
	room := append(bytes.Clone(b), bytes.Repeat([]byte{0xee}, 80)...)
	*all = append(*all, room)
	return room[:len(b)]
}

func (all *rooms) String() string { return string(bytes.Join(*all, nil)) }

// spoil changes all of a list, its spare room too.
func spoil(b []byte) {
	b = b[:cap(b)]
	for i := range b {
		b[i] ^= 0xff
	}
}

// TestOutKeepsNothing: the key and the payload stay as they are, and may change when the call is over.
func TestOutKeepsNothing(t *testing.T) {
	for _, w := range bothWays() {
		for size := range 40 {
			var all rooms
			o := packet.NewOut()
			key, payload := all.list(w.key), all.list(make([]byte, size))
			before := all.String()
			o.Keys(key)
			b, _ := o.Packet(payload)
			spoil(b)
			o.Packet(payload)
			if all.String() != before {
				t.Errorf("R2: %s, %d bytes: an argument was changed or shares the answer's memory", w.name, size)
			}
			spoil(key)
			spoil(payload)
			count := uint64(2)
			if size == 0 {
				count = 0
			}
			mustPacket(t, o, w, count, []byte("goes on"))
		}
	}
}

// TestOutIsNewMemory: an answer shares none with another one, nor with what is kept.
func TestOutIsNewMemory(t *testing.T) {
	for _, w := range bothWays() {
		o := w.out()
		var first [][]byte
		for count := range uint64(20) {
			b, _ := o.Packet([]byte("payload"))
			first = append(first, b)
			for at, b := range first {
				if !bytes.Equal(b, w.byHand(uint64(at), []byte("payload"))) {
					t.Errorf("R2: %s: packet %d was changed by packet %d", w.name, at, count)
				}
			}
		}
		for _, b := range first {
			spoil(b)
		}
		mustPacket(t, o, w, 20, []byte("payload"))
	}
}

// TestInKeepsNothing: the key and what is fed stay as they are, and may change when the call is over.
func TestInKeepsNothing(t *testing.T) {
	for _, w := range bothWays() {
		b := w.byHand(0, []byte("payload"))
		for cut := range len(b) + 1 {
			var all rooms
			n := packet.NewIn()
			key, ahead, behind := all.list(w.key), all.list(b[:cut]), all.list(b[cut:])
			before := all.String()
			n.Keys(key)
			n.Feed(ahead)
			n.Feed(behind)
			if all.String() != before {
				t.Errorf("R2: %s, cut at %d: an argument was changed", w.name, cut)
			}
			for _, list := range all {
				spoil(list)
			}
			before = all.String()
			payload, ok, _ := n.Next()
			if !ok || string(payload) != "payload" {
				t.Errorf("R2: %s, cut at %d: %q", w.name, cut, payload)
			}
			spoil(payload)
			n.Feed(w.byHand(1, []byte("next")))
			mustRead(t, w.name, n, []byte("next"), 0)
			if all.String() != before {
				t.Errorf("R2: %s, cut at %d: an argument was changed or shares the answer's memory", w.name, cut)
			}
		}
	}
}

// TestInIsNewMemory: an answer may be changed, its spare room too, and what is held stays; nor does what comes later change it.
func TestInIsNewMemory(t *testing.T) {
	for _, w := range bothWays() {
		for _, spoils := range []bool{true, false} {
			n := w.in()
			var all []byte
			var wants, payloads [][]byte
			r := rand.New(rand.NewSource(13))
			for count := range uint64(60) {
				wants = append(wants, someBytes(r, 1+r.Intn(50)))
				all = append(all, w.byHand(count, wants[count])...)
			}
			n.Feed(all[:len(all)/2])
			all = all[len(all)/2:]
			for at := range wants {
				if at%5 == 0 || at > 25 {
					size := min(len(all), 200)
					n.Feed(all[:size])
					all = all[size:]
				}
				payload, ok, why := n.Next()
				if !ok || !bytes.Equal(payload, wants[at]) {
					t.Fatalf("R2: %s: packet %d: %x, %v", w.name, at, payload, why)
				}
				payloads = append(payloads, payload)
				if spoils {
					spoil(payload)
				}
			}
			for at, payload := range payloads {
				if !spoils && !bytes.Equal(payload, wants[at]) {
					t.Errorf("R2: %s: payload %d was changed later", w.name, at)
				}
			}
		}
	}
}

// TestEachOnItsOwn: no Out or In tells of another one.
func TestEachOnItsOwn(t *testing.T) {
	sealed := way{"sealed", upKey()}
	o, n := sealed.out(), sealed.in()
	o.Packet([]byte("payload"))
	n.Feed(head(5))
	n.Next()
	plain := bothWays()[0]
	mustPacket(t, packet.NewOut(), plain, 0, []byte("another"))
	other := packet.NewIn()
	mustWait(t, "another", other, 0)
	other.Feed(plain.byHand(0, []byte("another")))
	mustRead(t, "another", other, []byte("another"), 0)
	mustPacket(t, sealed.out(), sealed, 0, []byte("another"))
}
