package packet_test

import (
	"bytes"
	"encoding/binary"
	"encoding/hex"
	"math/rand"
	"strings"
	"testing"

	"strongroom/api"
	"strongroom/packet"
)

// TestPacketOfRun has the chapter's run, and plain packets that are spelt out.
func TestPacketOfRun(t *testing.T) {
	for _, c := range []struct{ payload, want string }{
		{"15", "0000000c0a15" + strings.Repeat("00", 10)},
		{"1516", "0000000c091516" + strings.Repeat("00", 9)},
		{"010203040506", "0000000c05010203040506" + "0000000000"},
		{"01020304050607", "0000000c0401020304050607" + "00000000"},
		{"0102030405060708", "000000140b0102030405060708" + strings.Repeat("00", 11)},
	} {
		b, why := packet.NewOut().Packet(unhex(t, c.payload))
		if why != api.OK || hex.EncodeToString(b) != c.want {
			t.Errorf("P8.1: Packet(%s): %v, %x, want %s", c.payload, why, b, c.want)
		}
	}
}

// sealedCase is a packet that OpenSSL sealed, framed by another program.
type sealedCase struct {
	key     []byte
	payload string
	want    string
}

// sealedCases go out one behind the other, from the first packet on.
func sealedCases() []sealedCase {
	fifty := make([]byte, 50)
	for i := range fifty {
		fifty[i] = byte(i)
	}
	return []sealedCase{
		{upKey(), "\x15", "000000081ead4231ade6a6d18d79d7e6e842a08e575eda1f021b0e15"},
		{upKey(), "ab", "000000086c3d1ed9310ab87a224fde7d90f2efa4426fb65f012a9e58"},
		{upKey(), "strongroom!", "0000001049b9c48565130026a251d5eccdf0491869247d42c7fd210f2e6f94895bd68c15"},
		{downKey(), "ssh-userauth", "000000185c38bcd366eab46955094df04de89c96f140417efcc710b8c310d5c0d49188aa4397a558e6328ff5"},
		{downKey(), string(fifty), "00000038ff380181fdb3a957290df5bb77f4e49e938eb3bb474afd8bdcfb31dbce1d3e72d3c80f689dd9e2a62fa4f2e866b6d00f7203d112bb871675e04fc47cb3867af1656d1ff330841d22"},
		{upKey(), "\x15", "00000008cadde31c229f99336b1347aa4ca1c1f112a83c35c34391d4"},
	}
}

// behindMany is the packet of a nought behind 65537 others, by upKey; it comes from where sealedCases do.
const behindMany = "0000000881e1e0f9b2143e2f300f81e380905675ef9486f38e018493"

func TestPacketOfSealedCases(t *testing.T) {
	o := packet.NewOut()
	for i, c := range sealedCases() {
		if why := o.Keys(c.key); why != api.OK {
			t.Errorf("P8.1: Keys: %v", why)
		}
		b, why := o.Packet([]byte(c.payload))
		if why != api.OK || hex.EncodeToString(b) != c.want {
			t.Errorf("P8.1: packet %d: %v, %x, want %s", i, why, b, c.want)
		}
	}
}

// lengths are those of payloads around each multiple of 8 at the beginning, around those where a byte of L turns over, and up to the end.
func lengths() []int {
	var all []int
	for n := 1; n <= 100; n++ {
		all = append(all, n)
	}
	for _, at := range []int{256, 512, 4096, 32768, api.MaxPayload - 10} {
		for n := at - 20; n <= at+10; n++ {
			all = append(all, n)
		}
	}
	return all
}

func TestPacketOfLengths(t *testing.T) {
	r := rand.New(rand.NewSource(1))
	for _, w := range bothWays() {
		for _, n := range lengths() {
			mustPacket(t, w.out(), w, 0, someBytes(r, n))
		}
	}
}

// TestPacketIsFramed says what the document says of a plain packet's parts, without reckoning them first.
func TestPacketIsFramed(t *testing.T) {
	r := rand.New(rand.NewSource(2))
	for _, n := range lengths() {
		payload := someBytes(r, n)
		b, _ := packet.NewOut().Packet(payload)
		if len(b) < 16 || len(b)%8 != 0 {
			t.Fatalf("P8.1: %d bytes: a packet of %d", n, len(b))
		}
		length, noughts := int(binary.BigEndian.Uint32(b)), int(b[4])
		if length != len(b)-4 || length > api.MaxPacket {
			t.Errorf("P8.1: %d bytes: L is %d of a packet of %d", n, length, len(b))
		}
		// With eight fewer it would still be a multiple: there are as few as may be.
		if noughts < 4 || noughts-8 >= 4 {
			t.Errorf("P8.1: %d bytes: P is %d", n, noughts)
		}
		if !bytes.Equal(b[5:5+n], payload) || !bytes.Equal(b[5+n:], make([]byte, noughts)) {
			t.Errorf("P8.1: %d bytes: behind P stands %x", n, b[5:])
		}
	}
}

// TestPacketIsSealed: L of a sealed packet counts what is hidden, and neither itself nor the sum.
func TestPacketIsSealed(t *testing.T) {
	w := way{"sealed", downKey()}
	for _, n := range lengths() {
		b, _ := w.out().Packet(make([]byte, n))
		length := int(binary.BigEndian.Uint32(b))
		noughts := length - 1 - n
		if len(b) != 4+length+16 || length%8 != 0 || noughts < 4 || noughts-8 >= 4 {
			t.Errorf("P8.1: %d bytes: L is %d of a packet of %d", n, length, len(b))
		}
	}
}

func refusedPayloads() map[api.Errno][][]byte {
	return map[api.Errno][][]byte{
		api.ErrArg:  {nil, {}, make([]byte, 0, 100), upKey()[:0]},
		api.ErrLong: {make([]byte, api.MaxPayload+1), make([]byte, api.MaxPayload+2), make([]byte, api.MaxPacket), make([]byte, 1<<16), make([]byte, 1<<20)},
	}
}

// TestPacketRefuses: what is refused is not counted, and no later packet tells of it.
func TestPacketRefuses(t *testing.T) {
	for _, w := range bothWays() {
		o, count := w.out(), uint64(0)
		for range 3 {
			for want, payloads := range refusedPayloads() {
				for _, payload := range payloads {
					if b, why := o.Packet(payload); why != want || len(b) != 0 {
						t.Errorf("P8.1: %s, %d bytes: %v, %x, want %v", w.name, len(payload), why, b, want)
					}
				}
			}
			mustPacket(t, o, w, count, []byte("goes on"))
			count++
			mustPacket(t, o, w, count, make([]byte, api.MaxPayload))
			count++
		}
		// Plain packets do not show their count: a key does.
		other := way{"sealed later", downKey()}
		o.Keys(other.key)
		mustPacket(t, o, other, count, []byte("count"))
	}
}

// TestPacketCounts: plain packets count as well, over each byte's end.
func TestPacketCounts(t *testing.T) {
	o, w := packet.NewOut(), way{"sealed", upKey()}
	for count := range 65538 {
		switch count {
		case 0, 1, 2, 127, 128, 255, 256, 257, 511, 512, 65535, 65536, 65537:
			// Another Out goes on from here, so that this one stays plain.
			sealed := packet.NewOut()
			for range count {
				sealed.Packet([]byte{1})
			}
			sealed.Keys(w.key)
			mustPacket(t, sealed, w, uint64(count), []byte("count"))
			mustPacket(t, sealed, w, uint64(count)+1, []byte("count"))
		}
		if count < 65537 {
			o.Packet([]byte{0})
		}
	}
	o.Keys(w.key)
	if b, why := o.Packet([]byte{0}); why != api.OK || hex.EncodeToString(b) != behindMany {
		t.Errorf("P8.1: behind 65537 packets: %v, %x, want %s", why, b, behindMany)
	}
}

// TestPacketCountsSealed: sealed ones count too, and another key does not begin anew.
func TestPacketCountsSealed(t *testing.T) {
	ways := []way{{"up", upKey()}, {"down", downKey()}, {"noughts", make([]byte, 32)}}
	o := packet.NewOut()
	for count := range uint64(600) {
		w := ways[count/100%3]
		if count%100 == 0 {
			o.Keys(w.key)
		}
		mustPacket(t, o, w, count, []byte("the same text"))
	}
}

// TestOutKeysRefuses: a refused key changes nothing, neither plain packets nor those of an earlier key.
func TestOutKeysRefuses(t *testing.T) {
	for _, w := range bothWays() {
		o := w.out()
		for count, key := range wrongKeys() {
			if why := o.Keys(key); why != api.ErrArg {
				t.Errorf("P8.1: Keys of %d bytes: %v", len(key), why)
			}
			mustPacket(t, o, w, uint64(count), []byte("goes on"))
		}
	}
}

// TestOutKeysOfNoughts: a key of noughts alone is one.
func TestOutKeysOfNoughts(t *testing.T) {
	o, w := packet.NewOut(), way{"noughts", make([]byte, 32)}
	if why := o.Keys(w.key); why != api.OK {
		t.Errorf("P8.1: Keys: %v", why)
	}
	mustPacket(t, o, w, 0, []byte("sealed"))
	// The last key of several holds; setting one counts for nothing.
	for _, key := range [][]byte{upKey(), make([]byte, 32), downKey()} {
		o.Keys(key)
	}
	mustPacket(t, o, way{"last", downKey()}, 1, []byte("sealed"))
}
