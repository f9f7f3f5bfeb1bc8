package packet_test

import (
	"fmt"
	"math/rand"
	"testing"

	"strongroom/api"
	"strongroom/packet"
)

// talk is what an Out has made: the payloads, their packets in one list, and the key that is set ahead of a payload, where there is one.
type talk struct {
	payloads []string
	keys     [][]byte
	all      []byte
}

// someTalk makes packets, and sets other keys now and then.
func someTalk(t *testing.T, r *rand.Rand, count, most int) talk {
	t.Helper()
	var told talk
	o := packet.NewOut()
	for range count {
		var key []byte
		if r.Intn(4) == 0 {
			key = someBytes(r, 32)
			o.Keys(key)
		}
		payload := someBytes(r, 1+r.Intn(most))
		b, why := o.Packet(payload)
		if why != api.OK {
			t.Fatalf("P8.3: %d bytes: %v", len(payload), why)
		}
		told.payloads, told.keys, told.all = append(told.payloads, string(payload)), append(told.keys, key), append(told.all, b...)
	}
	return told
}

// reader reads a talk, with its keys each in its place.
type reader struct {
	in   *packet.In
	told talk
	at   int
}

// readAll reads what is there.
func (r *reader) readAll(t *testing.T) {
	t.Helper()
	for {
		if r.at < len(r.told.keys) && r.told.keys[r.at] != nil {
			r.in.Keys(r.told.keys[r.at])
		}
		b, ok, why := r.in.Next()
		if why != api.OK {
			t.Fatalf("P8.3: packet %d: %v", r.at, why)
		}
		if !ok {
			return
		}
		if r.at == len(r.told.payloads) || string(b) != r.told.payloads[r.at] {
			t.Fatalf("P8.3: packet %d is another one: %d bytes", r.at, len(b))
		}
		r.at++
	}
}

// carry feeds a talk in pieces, and reads what is there behind some of them.
func carry(t *testing.T, told talk, piece func() int, reads func() bool) {
	t.Helper()
	r := reader{in: packet.NewIn(), told: told}
	rest := told.all
	for len(rest) > 0 {
		size := min(piece(), len(rest))
		r.in.Feed(rest[:size])
		rest = rest[size:]
		if reads() {
			r.readAll(t)
		}
	}
	r.readAll(t)
	if r.at != len(told.payloads) || r.in.Held() != 0 {
		t.Fatalf("P8.3: %d of %d packets are read, %d bytes are held", r.at, len(told.payloads), r.in.Held())
	}
}

func always() bool { return true }
func never() bool  { return false }

func TestReadsInPieces(t *testing.T) {
	for round := range 200 {
		r := rand.New(rand.NewSource(int64(round)))
		told := someTalk(t, r, r.Intn(12), 1+r.Intn(300))
		sometimes := func() bool { return r.Intn(3) == 0 }
		for _, size := range []int{1, 2, 3, 4, 5, 7, 8, 16, 20, 21, 1000, 1 << 20} {
			carry(t, told, func() int { return size }, always)
			carry(t, told, func() int { return size }, sometimes)
			carry(t, told, func() int { return size }, never)
		}
		carry(t, told, func() int { return r.Intn(40) }, always)
		carry(t, told, func() int { return r.Intn(400) }, sometimes)
	}
}

func TestReadsLongPackets(t *testing.T) {
	for round := range 10 {
		r := rand.New(rand.NewSource(int64(1000 + round)))
		told := someTalk(t, r, 12, api.MaxPayload)
		carry(t, told, func() int { return 1 + r.Intn(50000) }, always)
		carry(t, told, func() int { return 1 + r.Intn(500) }, always)
		carry(t, told, func() int { return 1 + r.Intn(5000) }, never)
	}
}

// TestReadsEachLength: each payload's length that is named, made and read one behind the other.
func TestReadsEachLength(t *testing.T) {
	for _, w := range bothWays() {
		o, n := w.out(), w.in()
		r := rand.New(rand.NewSource(12))
		for _, size := range lengths() {
			payload := someBytes(r, size)
			b, _ := o.Packet(payload)
			n.Feed(b)
			mustRead(t, fmt.Sprintf("P8.3: %s, %d bytes", w.name, size), n, payload, 0)
			// What is refused is counted by neither.
			o.Packet(nil)
			o.Packet(make([]byte, api.MaxPayload+1))
		}
	}
}

// rubbish is bytes that are partly right packets.
func rubbish(r *rand.Rand, w way) []byte {
	var all []byte
	for count := range uint64(r.Intn(6)) {
		switch r.Intn(5) {
		case 0:
			all = append(all, head(r.Intn(60))...)
		case 1:
			all = append(all, someBytes(r, r.Intn(9))...)
		case 2:
			all = append(all, w.wrap(count, filled(r.Intn(30), make([]byte, 8*(1+r.Intn(4))+3), nil))...)
		default:
			all = append(all, w.byHand(count, someBytes(r, 1+r.Intn(30)))...)
		}
	}
	return all
}

// answers is all that an In answers, in words.
func answers(n *packet.In) string {
	text := ""
	for {
		b, ok, why := n.Next()
		if !ok {
			return text + fmt.Sprint(int(why), " ", n.Held())
		}
		text += fmt.Sprintf("%x ", b)
	}
}

// TestPiecesDoNotMatter: of whatever bytes, what is answered hangs on them alone.
func TestPiecesDoNotMatter(t *testing.T) {
	for round := range 3000 {
		r := rand.New(rand.NewSource(int64(round)))
		w := bothWays()[round%2]
		all := rubbish(r, w)
		whole, parts := w.in(), w.in()
		whole.Feed(all)
		want, got := answers(whole), ""
		for rest := all; len(rest) > 0; {
			size := 1 + r.Intn(min(len(rest), 30))
			parts.Feed(rest[:size])
			rest = rest[size:]
			for {
				b, ok, _ := parts.Next()
				if !ok {
					break
				}
				got += fmt.Sprintf("%x ", b)
			}
		}
		if got += answers(parts); got != want {
			t.Fatalf("W1: %s, %x: %s in pieces, %s as a whole", w.name, all, got, want)
		}
	}
}
