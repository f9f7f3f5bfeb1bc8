package nego_test

import (
	"encoding/binary"
	"fmt"
	"math/rand"
	"slices"
	"strings"
	"testing"

	"strongroom/api"
	"strongroom/nego"
)

// TestDecodeBack: what Encode made comes back, whatever the last number is.
func TestDecodeBack(t *testing.T) {
	all := severalLists()
	r := rand.New(rand.NewSource(3))
	for range 500 {
		all = append(all, someLists(r))
	}
	for _, l := range all {
		b, _ := nego.Encode(l)
		for _, last := range []uint32{0, 1, 7, 20, 1 << 16, 1 << 31, 1<<32 - 1} {
			binary.BigEndian.PutUint32(b[len(b)-4:], last)
			if x, why := nego.Decode(b); why != api.OK || show(x) != show(l) {
				t.Errorf("P9.2: Decode with a last number of %d: %v, %s; want %s", last, why, show(x), show(l))
			}
		}
	}
}

// TestDecodeParts: the parts of an answer stand here one by one.
func TestDecodeParts(t *testing.T) {
	l, why := nego.Decode([]byte("\x14" + someCookie + text("a,b") + text("") + text("c") + strings.Repeat(text(""), 6) + text("d,d") + "\x07\x01\x02\x03\x04"))
	if why != api.OK || string(l.Cookie) != someCookie || !l.Follows {
		t.Errorf("P9.2: Decode: %v, %s", why, show(l))
	}
	for i, want := range [10][]string{{"a", "b"}, nil, {"c"}, nil, nil, nil, nil, nil, nil, {"d", "d"}} {
		if !slices.Equal(l.Names[i], want) {
			t.Errorf("P9.2: Decode, list %d: %q", i, l.Names[i])
		}
	}
}

// refuse asks Decode of bytes that are none of Encode's.
func refuse(t *testing.T, what string, b []byte) {
	t.Helper()
	if l, why := nego.Decode(b); why != api.ErrForm || show(l) != nothing {
		t.Errorf("P9.2: Decode of %s: %v, %s", what, why, show(l))
	}
}

func TestDecodeBeginnings(t *testing.T) {
	refuse(t, "nil", nil)
	refuse(t, "no bytes", []byte{})
	for i, l := range severalLists() {
		b := written(l, 0)
		for cut := range b {
			refuse(t, fmt.Sprintf("%d bytes of lists %d", cut, i), b[:cut])
		}
		for _, more := range []string{"\x00", "\x14", "\xff", "more", string(b)} {
			refuse(t, fmt.Sprintf("lists %d with %q behind", i, more), append(slices.Clone(b), more...))
		}
		refuse(t, "lists with a byte ahead", append([]byte{20}, b...))
		refuse(t, "lists without their kind", b[1:])
	}
}

func TestDecodeOtherKinds(t *testing.T) {
	b := written(openSSH(), 0)
	for kind := range 256 {
		b[0] = byte(kind)
		if kind == 20 {
			mustDecode(t, "kind 20", b)
			continue
		}
		refuse(t, fmt.Sprintf("kind %d", kind), b)
	}
}

// TestDecodeEachByteTurned: a turned byte is told, unless it is one of the last four, and is refused where the bytes are none then.
func TestDecodeEachByteTurned(t *testing.T) {
	var all, bits []int
	for turn := 1; turn < 256; turn++ {
		all = append(all, turn)
	}
	for bit := range 8 {
		bits = append(bits, 1<<bit)
	}
	for i, c := range []struct {
		lists nego.Lists
		turns []int
	}{
		{fields(someCookie, false), all},
		{nego.Ours([]byte(someCookie)), all},
		{fields(someCookie, true, "a b", "", "c"), all},
		{openSSH(), bits},
	} {
		b := written(c.lists, 0)
		for at := range b {
			for _, turn := range c.turns {
				turned := slices.Clone(b)
				turned[at] ^= byte(turn)
				mustDecode(t, fmt.Sprintf("lists %d, byte %d turned by %d", i, at, turn), turned)
			}
		}
	}
}

// TestDecodeFollows: each byte that is not 0 says so.
func TestDecodeFollows(t *testing.T) {
	for n := range 256 {
		b := written(openSSH(), 0)
		b[len(b)-5] = byte(n)
		l, why := nego.Decode(b)
		want := openSSH()
		want.Follows = n != 0
		if why != api.OK || show(l) != show(want) {
			t.Errorf("P9.2: Follows of a byte %d: %v, %s", n, why, show(l))
		}
	}
}

// TestDecodeWrongLists: each list of the ten is asked, and what is wrong in it is ErrForm, whatever wire says of it.
func TestDecodeWrongLists(t *testing.T) {
	long := strings.Join(most(), ",")
	for i := range 10 {
		for _, c := range []struct {
			list  string
			right bool
		}{
			{text(""), true}, {text("a"), true}, {text("a,b"), true}, {text(long), true}, {text(strings.Repeat("x", 64)), true},
			{text(","), false}, {text("a,"), false}, {text(",a"), false}, {text("a,,b"), false}, {text("a b"), false}, {text("a\x7f"), false}, {text("\x00"), false}, {text("\u00e9"), false},
			{text(strings.Repeat("x", 65)), false}, {text("a," + strings.Repeat("x", 65)), false},
			{text(long + "x"), false}, {text(long + ",x"), false}, {text(strings.Repeat("x", 1001)), false},
			{"\x00\x00\x03\xe8", false}, {"\x00\x00\x03\xe9", false}, {"\x80\x00\x00\x00", false}, {"\xff\xff\xff\xff", false}, {"\x00\x00\x00", false}, {"", false},
		} {
			b := []byte("\x14" + someCookie + strings.Repeat(text("n"), i) + c.list + strings.Repeat(text("n"), 9-i) + "\x01\x00\x00\x00\x00")
			mustDecode(t, fmt.Sprintf("list %d of %.20q", i, c.list), b)
			if _, why := nego.Decode(b); (why == api.OK) != c.right {
				t.Errorf("P9.2: Decode, list %d of %.20q: %v", i, c.list, why)
			}
		}
	}
	for _, count := range []int{0, 1, 9, 11, 20} {
		refuse(t, fmt.Sprintf("%d lists", count), []byte("\x14"+someCookie+strings.Repeat(text("nn"), count)+"\x00\x00\x00\x00\x00"))
	}
}

// TestDecodeOfWhatever: bytes of all kinds, most of them nearly right, are read as by hand.
func TestDecodeOfWhatever(t *testing.T) {
	r := rand.New(rand.NewSource(4))
	for range 20000 {
		b := written(someLists(r), r.Uint32())
		for range 1 + r.Intn(3) {
			at := r.Intn(len(b))
			switch r.Intn(4) {
			case 0:
				b[at] = byte(r.Intn(256))
			case 1:
				b = slices.Delete(b, at, min(at+1+r.Intn(5), len(b)-1))
			case 2:
				b = slices.Insert(b, at, byte(r.Intn(256)))
			default:
				b[at] = ','
			}
		}
		mustDecode(t, fmt.Sprintf("%x", b), b)
	}
	for range 2000 {
		b := make([]byte, r.Intn(300))
		r.Read(b)
		refuse(t, "any bytes", b)
	}
}
