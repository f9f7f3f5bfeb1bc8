package packet_test

import (
	"fmt"
	"math/rand"
	"slices"
	"testing"

	"strongroom/api"
	"strongroom/packet"
)

func TestNextOfNothing(t *testing.T) {
	for _, w := range bothWays() {
		n := w.in()
		if n.Held() != 0 {
			t.Errorf("P8.2: %s: %d bytes are held of nothing", w.name, n.Held())
		}
		mustWait(t, w.name, n, 0)
		n.Feed(nil)
		n.Feed([]byte{})
		n.Feed(make([]byte, 0, 9))
		mustWait(t, w.name, n, 0)
		n.Feed(w.byHand(0, []byte("payload")))
		mustRead(t, w.name, n, []byte("payload"), 0)
		mustWait(t, w.name, n, 0)
	}
}

// TestNextOfBeginnings: at each place where a packet may be cut, what is not whole waits, is not counted, and is read when the rest is there.
func TestNextOfBeginnings(t *testing.T) {
	for _, w := range bothWays() {
		for size := 1; size <= 20; size++ {
			payload := someBytes(rand.New(rand.NewSource(3)), size)
			b := w.byHand(1, payload)
			for cut := range b {
				what := fmt.Sprintf("%s, %d of %d bytes", w.name, cut, len(b))
				n := w.in()
				n.Feed(w.byHand(0, []byte("first")))
				mustRead(t, what, n, []byte("first"), 0)
				n.Feed(b[:cut])
				mustWait(t, what, n, cut)
				n.Feed(nil)
				mustWait(t, what, n, cut)
				n.Feed(b[cut:])
				mustRead(t, what, n, payload, 0)
				mustWait(t, what, n, 0)
			}
		}
	}
}

// TestNextOfSeveral: all are there at once, and the beginning of one more.
func TestNextOfSeveral(t *testing.T) {
	for _, w := range bothWays() {
		var all []byte
		var payloads, packets [][]byte
		for i, size := range []int{1, 7, 8, 300, 2, api.MaxPayload, 30} {
			payloads = append(payloads, someBytes(rand.New(rand.NewSource(int64(i))), size))
			packets = append(packets, w.byHand(uint64(i), payloads[i]))
			all = append(all, packets[i]...)
		}
		last := len(packets) - 1
		n := w.in()
		n.Feed(all[:len(all)-1])
		held := len(all) - 1
		if n.Held() != held {
			t.Errorf("P8.2: %s: %d bytes are held, want %d", w.name, n.Held(), held)
		}
		for i, payload := range payloads[:last] {
			held -= len(packets[i])
			mustRead(t, fmt.Sprint(w.name, " ", i), n, payload, held)
		}
		mustWait(t, w.name, n, len(packets[last])-1)
		n.Feed(all[len(all)-1:])
		mustRead(t, w.name, n, payloads[last], 0)
	}
}

func TestNextByteByByte(t *testing.T) {
	for _, w := range bothWays() {
		n := w.in()
		for count := range uint64(20) {
			payload := someBytes(rand.New(rand.NewSource(int64(count))), 1+int(3*count))
			b := w.byHand(count, payload)
			for i, one := range b {
				mustWait(t, w.name, n, i)
				n.Feed([]byte{one})
			}
			mustRead(t, w.name, n, payload, 0)
		}
	}
}

// TestNextOfManySmall: a long list of packets is read in about as many steps as it has bytes.
func TestNextOfManySmall(t *testing.T) {
	n := packet.NewIn()
	one := way{}.byHand(0, []byte{9})
	n.Feed(slices.Repeat(one, 200000))
	for i := 200000; i > 0; i-- {
		mustRead(t, "many", n, []byte{9}, (i-1)*len(one))
		if t.Failed() {
			return
		}
	}
}

// TestNextCounts: a sealed packet behind many plain ones opens by their count.
func TestNextCounts(t *testing.T) {
	n := packet.NewIn()
	n.Feed(slices.Repeat(way{}.byHand(0, []byte{9}), 65537))
	n.Feed(unhex(t, behindMany))
	for range 65537 {
		n.Next()
	}
	n.Keys(upKey())
	mustRead(t, "behind 65537 packets", n, []byte{0}, 0)
}

func TestNextOfSealedCases(t *testing.T) {
	n := packet.NewIn()
	for i, c := range sealedCases() {
		n.Keys(c.key)
		n.Feed(unhex(t, c.want))
		mustRead(t, fmt.Sprint("packet ", i), n, []byte(c.payload), 0)
	}
}

// rightLengths are those that an L may be, up to 64 and from MaxPacket - 24 on.
func (w way) rightLengths() []int {
	if w.key == nil {
		return []int{12, 20, 28, 36, 44, 52, 60, 34980, 34988, 34996}
	}
	return []int{8, 16, 24, 32, 40, 48, 56, 64, 34976, 34984, 34992, 35000}
}

// wrongLengths are the others there, and some above MaxPacket, with what refuses them.
func (w way) wrongLengths() map[int]api.Errno {
	wrong := map[int]api.Errno{}
	for length := range api.MaxPacket + 1 {
		if length <= 64 || length >= api.MaxPacket-24 {
			wrong[length] = api.ErrForm
		}
	}
	for _, length := range w.rightLengths() {
		delete(wrong, length)
	}
	for _, at := range []int{api.MaxPacket + 10, 1 << 16, 1 << 17, 1 << 24, 1 << 31, 1<<32 - 10} {
		for length := at - 9; length <= at+9; length++ {
			wrong[length] = api.ErrLong
		}
	}
	return wrong
}

func TestNextOfRightLengths(t *testing.T) {
	for _, w := range bothWays() {
		for _, length := range w.rightLengths() {
			what := fmt.Sprintf("%s, L of %d", w.name, length)
			n := w.in()
			n.Feed(head(length))
			mustWait(t, what, n, 4)
			payload := someBytes(rand.New(rand.NewSource(4)), length-5)
			b := w.wrap(0, filled(4, payload, make([]byte, 4)))
			n.Feed(b[4 : len(b)-1])
			mustWait(t, what, n, len(b)-1)
			n.Feed(b[len(b)-1:])
			mustRead(t, what, n, payload, 0)
		}
	}
}

// TestNextOfWrongLengths: they are told as soon as four bytes are there, whatever stands behind.
func TestNextOfWrongLengths(t *testing.T) {
	for _, w := range bothWays() {
		for length, want := range w.wrongLengths() {
			what := fmt.Sprintf("%s, L of %d", w.name, length)
			n := w.in()
			n.Feed(head(length)[:3])
			mustWait(t, what, n, 3)
			n.Feed(head(length)[3:])
			if n.Held() != 4 {
				t.Errorf("P8.2: %s: %d bytes are held ahead of Next", what, n.Held())
			}
			mustRefuse(t, what, n, want)
			n = w.in()
			n.Feed(slices.Concat(head(length), make([]byte, 40000)))
			mustRefuse(t, what+" and more", n, want)
		}
	}
}

// TestNextOfNoughts goes through each P of packets of several lengths.
func TestNextOfNoughts(t *testing.T) {
	for _, w := range bothWays() {
		for _, base := range []int{8, 16, 24, 200, 240, 248, 256, 264, 272, 1000} {
			length := base
			if w.key == nil {
				length += 4
			}
			rest := someBytes(rand.New(rand.NewSource(5)), length-1)
			for told := range 256 {
				what := fmt.Sprintf("%s, L of %d, P of %d", w.name, length, told)
				n := w.in()
				n.Feed(w.wrap(0, filled(told, rest, nil)))
				left := length - 1 - told
				if told < 4 || left < 1 {
					mustRefuse(t, what, n, api.ErrForm)
				} else {
					mustRead(t, what, n, rest[:left], 0)
				}
			}
		}
	}
}

// TestNextOfAnyNoughts: what comes in in their place may be any bytes.
func TestNextOfAnyNoughts(t *testing.T) {
	n := packet.NewIn()
	n.Feed([]byte("\x00\x00\x00\x0c\x0aZabcdefghij"))
	mustRead(t, "the chapter's example", n, []byte("Z"), 0)
	for _, w := range bothWays() {
		r := rand.New(rand.NewSource(6))
		for count := range uint64(200) {
			payload := someBytes(r, 1+int(count))
			noughts := w.fewest(len(payload))
			in := w.in()
			// More than the fewest may come as well.
			in.Feed(w.wrap(0, filled(noughts, payload, someBytes(r, noughts))))
			in.Feed(w.wrap(1, filled(noughts+16, payload, someBytes(r, noughts+16))))
			in.Feed(w.wrap(2, filled(noughts+240, payload, someBytes(r, noughts+240))))
			for range 3 {
				b, ok, why := in.Next()
				if !ok || why != api.OK || string(b) != string(payload) {
					t.Errorf("P8.2: %s, %d bytes: %x, %v, %v", w.name, len(payload), b, ok, why)
				}
			}
		}
	}
}

// wantOfTurned is what a sealed packet is answered whose head has become that of another length.
func wantOfTurned(length, was int) api.Errno {
	switch {
	case length > api.MaxPacket:
		return api.ErrLong
	case length < 6 || length%8 != 0:
		return api.ErrForm
	case length > was:
		return api.OK
	}
	return api.ErrMac
}

// TestNextOfTurned turns each bit of sealed packets, one at a time.
func TestNextOfTurned(t *testing.T) {
	w := way{"sealed", downKey()}
	for _, size := range []int{1, 3, 4, 11, 20, 60} {
		payload := someBytes(rand.New(rand.NewSource(7)), size)
		b := w.byHand(0, payload)
		for i := range 8 * len(b) {
			what := fmt.Sprintf("%d bytes, bit %d", size, i)
			turned := slices.Clone(b)
			turned[i/8] ^= 1 << (i % 8)
			want := api.ErrMac
			if i < 32 {
				length := int(turned[0])<<24 | int(turned[1])<<16 | int(turned[2])<<8 | int(turned[3])
				want = wantOfTurned(length, len(b)-20)
			}
			n := w.in()
			n.Feed(turned)
			if want != api.OK {
				mustRefuse(t, what, n, want)
				continue
			}
			mustWait(t, what, n, len(b))
			n.Feed(make([]byte, api.MaxPacket))
			mustRefuse(t, what, n, api.ErrMac)
		}
		n := w.in()
		n.Feed(b)
		mustRead(t, "not turned", n, payload, 0)
	}
}

// TestNextOfTurnedBytes turns each byte of a sealed packet to others than one bit further.
func TestNextOfTurnedBytes(t *testing.T) {
	w := way{"sealed", upKey()}
	b := w.byHand(0, []byte("some text that is longer than a piece"))
	for i := 4; i < len(b); i++ {
		for _, by := range []byte{1, 0x0f, 0x55, 0xaa, 0xff} {
			turned := slices.Clone(b)
			turned[i] ^= by
			n := w.in()
			n.Feed(turned)
			mustRefuse(t, fmt.Sprintf("byte %d by %d", i, by), n, api.ErrMac)
		}
	}
}

// TestNextOfMacFirst: of a packet that was not sealed so, P is not asked.
func TestNextOfMacFirst(t *testing.T) {
	w := way{"sealed", upKey()}
	for _, told := range []int{0, 3, 4, 5, 6, 7, 8, 255} {
		b := w.wrap(0, filled(told, make([]byte, 15), nil))
		b[len(b)-1] ^= 1
		n := w.in()
		n.Feed(b)
		mustRefuse(t, fmt.Sprintf("P of %d and a turned sum", told), n, api.ErrMac)
	}
}

// TestNextOfOtherCounts: a packet that comes twice, too early or too late is not the one that was sealed.
func TestNextOfOtherCounts(t *testing.T) {
	w := way{"sealed", upKey()}
	for at := range uint64(5) {
		for count := range uint64(5) {
			n := w.in()
			for ahead := range at {
				n.Feed(w.byHand(ahead, []byte("ahead")))
				mustRead(t, "ahead", n, []byte("ahead"), 0)
			}
			n.Feed(w.byHand(count, []byte("here")))
			what := fmt.Sprintf("packet %d as %d", count, at)
			if count == at {
				mustRead(t, what, n, []byte("here"), 0)
			} else {
				mustRefuse(t, what, n, api.ErrMac)
			}
		}
	}
	n := w.in()
	n.Feed(w.byHand(1<<32, []byte("here")))
	mustRefuse(t, "packet 2^32 as 0", n, api.ErrMac)
}

// TestNextOfOtherKeys: what was sealed by another key, and what was not sealed, does not come in where packets are sealed.
func TestNextOfOtherKeys(t *testing.T) {
	n := way{"", downKey()}.in()
	n.Feed(way{"", upKey()}.byHand(0, []byte("payload")))
	mustRefuse(t, "another key", n, api.ErrMac)
	n = way{"", downKey()}.in()
	// L of 16 is a right one where packets are sealed.
	n.Feed(slices.Concat(head(16), filled(4, make([]byte, 11), make([]byte, 20))))
	mustRefuse(t, "plain bytes", n, api.ErrMac)
	n = way{"", downKey()}.in()
	n.Feed(way{}.byHand(0, []byte("payload")))
	mustRefuse(t, "a plain packet", n, api.ErrForm)
	n = packet.NewIn()
	n.Feed(way{"", upKey()}.byHand(0, []byte("payload")))
	mustRefuse(t, "a sealed packet where they are plain", n, api.ErrForm)
}
