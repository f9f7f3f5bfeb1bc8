package nego_test

import (
	"fmt"
	"slices"
	"strings"
	"testing"

	"strongroom/nego"
)

// rooms keeps lists with room behind each of them that holds marks.
type rooms struct {
	bytes [][]byte
	names [][]string
}

func (all *rooms) list(b []byte) []byte {
	room := append(slices.Clone(b), slices.Repeat([]byte{0xee}, 80)...)
	all.bytes = append(all.bytes, room)
	return room[:len(b)]
}

// lists is l with room behind its cookie and behind each of its lists.
func (all *rooms) lists(l nego.Lists) nego.Lists {
	l.Cookie = all.list(l.Cookie)
	for i, names := range l.Names {
		room := append(slices.Clone(names), "mark", "mark", "mark")
		all.names = append(all.names, room)
		l.Names[i] = room[:len(names)]
	}
	return l
}

func (all *rooms) String() string { return fmt.Sprintf("%x %q", all.bytes, all.names) }

// spoil changes all of a list, its spare room too.
func spoil(b []byte) {
	b = b[:cap(b)]
	for i := range b {
		b[i] ^= 0xff
	}
}

func spoilNames(names []string) {
	names = names[:cap(names)]
	for i := range names {
		names[i] = "spoilt"
	}
}

func spoilLists(l nego.Lists) {
	spoil(l.Cookie)
	for _, names := range l.Names {
		spoilNames(names)
	}
}

// wrongLists are refused, each at another place.
func wrongLists() []nego.Lists {
	early, late, long := openSSH(), openSSH(), openSSH()
	early.Cookie = early.Cookie[:15]
	late.Names[9] = []string{"a", "b,c"}
	long.Names[4] = append(most(), "x")
	return []nego.Lists{early, late, long}
}

// TestLeavesArguments goes through all calls that are given lists, refusals too.
func TestLeavesArguments(t *testing.T) {
	for i, l := range append(severalLists(), wrongLists()...) {
		var all rooms
		client, server := all.lists(l), all.lists(openSSH())
		line, payload, cut := all.list([]byte(longest+"\r\nmore")), all.list(written(l, 7)), all.list(written(l, 7)[:30])
		before := all.String()
		b, _ := nego.Encode(client)
		spoil(b)
		nego.Version(line)
		nego.Version(line[:20])
		for _, b := range [][]byte{payload, cut} {
			decoded, _ := nego.Decode(b)
			spoilLists(decoded)
		}
		for k := range client.Names {
			nego.Choose(client.Names[k], server.Names[k])
		}
		nego.Agree(client, server)
		nego.Agree(client, client)
		spoilLists(nego.Ours(client.Cookie))
		if all.String() != before {
			t.Errorf("R2: lists %d: an argument was changed or shares an answer's memory", i)
		}
	}
}

// TestKeepsNothing: what was handed in may change when the call is over, and the answer stays.
func TestKeepsNothing(t *testing.T) {
	for i, l := range severalLists() {
		var all rooms
		given := all.lists(l)
		encoded, _ := nego.Encode(given)
		payload := all.list(written(l, 0))
		decoded, _ := nego.Decode(payload)
		cookie := all.list([]byte(someCookie))
		ours := nego.Ours(cookie)
		line := all.list([]byte("SSH-2.0-strongroom\r\n"))
		version, _, _ := nego.Version(line)
		client := all.lists(nego.Ours(nil))
		name, _ := nego.Choose(client.Names[2], client.Names[2])
		agreed, _ := nego.Agree(client, client)
		for _, b := range all.bytes {
			spoil(b)
		}
		for _, names := range all.names {
			spoilNames(names)
		}
		if string(encoded) != string(written(l, 0)) {
			t.Errorf("R2: lists %d: Encode's answer changed with what was handed in", i)
		}
		if show(decoded) != show(l) {
			t.Errorf("R2: lists %d: Decode's answer changed with what was handed in", i)
		}
		if string(ours.Cookie) != someCookie {
			t.Errorf("R2: Ours' cookie changed with what was handed in: %q", ours.Cookie)
		}
		if version != "SSH-2.0-strongroom" || name != "chacha20-poly1305" || agreed[0] != "curve25519-sha256" || agreed[7] != "none" {
			t.Errorf("R2: an answer changed with what was handed in: %q, %q, %q", version, name, agreed)
		}
	}
}

// TestReadsNoRoom: what stands behind the lists counts for nothing.
func TestReadsNoRoom(t *testing.T) {
	for _, l := range severalLists() {
		for _, b := range [][]byte{written(l, 0), written(l, 0)[:40]} {
			room := append(slices.Clone(b), written(l, 0)[len(b):]...)
			room = append(room, 0, 0)
			mustDecode(t, "lists with room behind", room[:len(b)])
		}
	}
	line := []byte("SSH-2.0-x\r\n")
	for cut := range line {
		if s, n, why := nego.Version(line[:cut]); s != "" || n != 0 || why == 0 {
			t.Errorf("R5: Version of %d bytes with the rest in its room: %q, %d, %v", cut, s, n, why)
		}
	}
	names := []string{"a", "b", "c"}
	if name, why := nego.Choose(names[:1], names[1:2]); name != "" || why == 0 {
		t.Errorf("R5: Choose with names in its room: %q, %v", name, why)
	}
	if name, why := nego.Choose(names, names[:0]); name != "" || why == 0 {
		t.Errorf("R5: Choose with names in its room: %q, %v", name, why)
	}
	cookie := []byte(someCookie + "behind")
	if l := nego.Ours(cookie[:16]); string(l.Cookie) != someCookie || strings.Contains(string(l.Cookie[:cap(l.Cookie)]), "behind") {
		t.Errorf("R5: Ours with room behind its cookie: %q", l.Cookie[:cap(l.Cookie)])
	}
}

// mustStandAlone changes each part of an answer, its spare room too, and looks whether another one changes.
func mustStandAlone(t *testing.T, what string, answer func() nego.Lists) {
	t.Helper()
	for i := range 11 {
		l := answer()
		want := answer()
		if i == 10 {
			spoil(l.Cookie)
			l.Cookie = want.Cookie
		} else {
			spoilNames(l.Names[i])
			l.Names[i] = want.Names[i]
		}
		if show(l) != show(want) {
			t.Errorf("R2: %s: part %d shares memory with another one: %s, want %s", what, i, show(l), show(want))
		}
	}
	first, second := answer(), answer()
	want := show(second)
	spoilLists(first)
	if show(second) != want || show(answer()) != want {
		t.Errorf("R2: %s: an answer shares memory with another one", what)
	}
}

func TestListsStandAlone(t *testing.T) {
	mustStandAlone(t, "Ours", func() nego.Lists { return nego.Ours([]byte(someCookie)) })
	for i, l := range severalLists() {
		b := written(l, 0)
		mustStandAlone(t, fmt.Sprintf("Decode of lists %d", i), func() nego.Lists {
			x, _ := nego.Decode(b)
			return x
		})
	}
}

// TestBytesAreNew: Line and Encode answer memory that no other answer has.
func TestBytesAreNew(t *testing.T) {
	for _, call := range []func() []byte{
		func() []byte { b, _ := nego.Line("SSH-2.0-strongroom"); return b },
		func() []byte { b, _ := nego.Line(longest); return b },
		func() []byte { b, _ := nego.Encode(nego.Ours([]byte(someCookie))); return b },
		func() []byte { b, _ := nego.Encode(openSSH()); return b },
	} {
		first, second := call(), call()
		want := string(second)
		spoil(first)
		if string(second) != want || string(call()) != want {
			t.Errorf("R2: an answer shares memory: %q", second)
		}
	}
}

// TestHangsOnNothingElse: what went ahead, a refusal too, is not kept.
func TestHangsOnNothingElse(t *testing.T) {
	for range 3 {
		for _, l := range wrongLists() {
			nego.Encode(l)
			nego.Decode(written(l, 0))
			nego.Agree(l, nego.Ours(nil))
			nego.Line(longest + "x")
			nego.Version([]byte(longest + "xx"))
			mustEncode(t, openSSH())
			mustDecode(t, "lists behind refused ones", written(openSSH(), 0))
			mustLine(t, "SSH-2.0-x", true)
			mustVersion(t, "SSH-2.0-x\r\n", "SSH-2.0-x", 11, 0)
			mustAgree(t, nego.Ours(nil), nego.Ours(nil), [8]string{"curve25519-sha256", "strongroom-mac", "chacha20-poly1305", "chacha20-poly1305", "none", "none", "none", "none"})
		}
	}
}
