package auth_test

import (
	"bytes"
	"fmt"
	"slices"
	"testing"

	"strongroom/api"
	"strongroom/auth"
)

// withRoom is a list of s with marks in the room behind it.
func withRoom(s string) []byte {
	return append([]byte(s), bytes.Repeat([]byte{0xee}, 120)...)[:len(s)]
}

// spoil changes all of a list, its spare room too.
func spoil(b []byte) {
	b = b[:cap(b)]
	for i := range b {
		b[i] ^= 0xff
	}
}

// spoilAll changes all lists of an answer, and then the answer.
func spoilAll(l [][]byte) {
	for _, b := range l {
		spoil(b)
	}
	l = l[:cap(l)]
	for i := range l {
		l[i] = []byte("spoilt")
	}
}

// severalTalks lead to each answer.
func severalTalks() [][]string {
	no := password("ann", "no")
	return [][]string{
		{asks, no, annComes, annComes, "\x02", ""},
		{asks, no, no, no, no, no, annComes},
		{asks, login("ann", "ssh-connection", "none", "rest"), password("bob", ""), asks, asks},
		{asks, asks}, {annComes}, {service("ssh-other")}, {asks, login("ann", "ssh-other", "none", "")},
		{asks, login("ann", "ssh-connection", "password", "\x01"+text("one"))},
		{asks, annComes, "\x32", ""}, {"\x01", asks}, {service(at65)}, {asks[:9]},
	}
}

// told is what a Gate answers and tells, payload by payload, in words.
func told(g *auth.Gate, payloads []string) string {
	out := ""
	for _, payload := range payloads {
		answer := g.Do([]byte(payload))
		name, in := g.User()
		out += fmt.Sprintf("%x %q %v %v\n", answer, name, in, g.Dead())
	}
	return out
}

func TestLeavesPayload(t *testing.T) {
	for _, talk := range severalTalks() {
		g := auth.New(people())
		for _, payload := range talk {
			b := withRoom(payload)
			before := string(b[:cap(b)])
			answer := g.Do(b)
			if string(b[:cap(b)]) != before {
				t.Errorf("R2: Do(%x) changed its payload", payload)
			}
			spoilAll(answer)
			if string(b[:cap(b)]) != before {
				t.Errorf("R2: Do(%x): the answer shares memory with the payload", payload)
			}
		}
	}
}

// TestKeepsNoPayload: the room behind a payload is not read, and a payload may change when the call is over.
func TestKeepsNoPayload(t *testing.T) {
	for _, talk := range severalTalks() {
		want := told(auth.New(people()), talk)
		g := auth.New(people())
		got := ""
		for _, payload := range talk {
			b := withRoom(payload)
			answer := g.Do(b)
			spoil(b)
			name, in := g.User()
			got += fmt.Sprintf("%x %q %v %v\n", answer, name, in, g.Dead())
		}
		if got != want {
			t.Errorf("R2: %x: with payloads that change later:\n%swant\n%s", talk, got, want)
		}
	}
}

// TestReadsNoRoomBehindPayload: what would make a payload whole stands in the room behind it.
func TestReadsNoRoomBehindPayload(t *testing.T) {
	for n := range len(asks) {
		whole := []byte(asks)
		want := [][]byte{[]byte(bye2)}
		if n == 0 {
			want = nil
		}
		if got := auth.New(people()).Do(whole[:n]); fmt.Sprint(got) != fmt.Sprint(want) {
			t.Errorf("R5: Do of %d bytes of a 5: %x", n, got)
		}
	}
	for n := 1; n < len(annComes); n++ {
		g := place{name: behind, payloads: []string{asks}}.gate(t)
		if got := g.Do([]byte(annComes)[:n]); len(got) != 1 || string(got[0]) != bye2 {
			t.Errorf("R5: Do of %d bytes of a 50: %x", n, got)
		}
	}
}

// TestLeavesUsers: New and what comes behind it change nothing in the list, its spare room included.
func TestLeavesUsers(t *testing.T) {
	for _, talk := range severalTalks() {
		l := people()
		before := slices.Clone(l)
		told(auth.New(l[:2]), talk)
		if !slices.Equal(l, before) {
			t.Errorf("R2: behind %x the users are others: %q", talk, l)
		}
	}
}

// TestKeepsNoUsers: the list may change when New is over, and what stands in the room behind it is nobody.
func TestKeepsNoUsers(t *testing.T) {
	l := people()
	g, few := auth.New(l), auth.New(l[:1])
	for i := range l {
		l[i] = api.User{Name: "spoilt", Pass: "spoilt"}
	}
	for _, gate := range []*auth.Gate{g, few} {
		mustAnswer(t, "users that change later", gate, asks, accepts)
		mustAnswer(t, "users that change later", gate, password("spoilt", "spoilt"), refuses)
	}
	mustAnswer(t, "users in the room behind", few, password("bob", ""), refuses)
	mustAnswer(t, "users in the room behind", g, password("bob", ""), letsIn)
	mustAnswer(t, "users that change later", few, annComes, letsIn)
	mustTell(t, "users that change later", few, place{user: "ann", in: true})
}

// TestAnswersAreNewMemory: whoever changes an answer, its spare room too, changes no other one, and not what is kept.
func TestAnswersAreNewMemory(t *testing.T) {
	for _, talk := range severalTalks() {
		want := told(auth.New(people()), talk)
		g, other := auth.New(people()), auth.New(people())
		got, kept := "", [][]byte(nil)
		for _, payload := range talk {
			answer, same := g.Do([]byte(payload)), other.Do([]byte(payload))
			kept = append(kept, same...)
			name, in := g.User()
			got += fmt.Sprintf("%x %q %v %v\n", answer, name, in, g.Dead())
			before := fmt.Sprintf("%x", kept)
			spoilAll(answer)
			if fmt.Sprintf("%x", kept) != before {
				t.Errorf("R2: Do(%x): two answers share memory", payload)
			}
		}
		if got != want || told(auth.New(people()), talk) != want {
			t.Errorf("R2: %x: with answers that are changed:\n%swant\n%s", talk, got, want)
		}
	}
	for _, reason := range []uint32{0, 2, 7, 14} {
		b, other := auth.Bye(reason), auth.Bye(reason)
		want := fmt.Sprintf("%x", other)
		spoil(b)
		if fmt.Sprintf("%x", other) != want || fmt.Sprintf("%x", auth.Bye(reason)) != want {
			t.Errorf("R2: Bye(%d): two answers share memory", reason)
		}
	}
}
