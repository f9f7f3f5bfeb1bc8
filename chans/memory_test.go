package chans_test

import (
	"bytes"
	"fmt"
	"testing"

	"strongroom/api"
	"strongroom/chans"
)

// withRoom is a list of s with marks in the room behind it.
func withRoom(s string) []byte {
	return append([]byte(s), bytes.Repeat([]byte{0xee}, 120)...)[:len(s)]
}

// spoil changes all of a list, its spare room too.
func spoil(b []byte) {
	b = b[:cap(b)]
	for i := range b {
		b[i] ^= 0xff
	}
}

// spoilAll changes all lists of an answer, and then the answer.
func spoilAll(answers [][]byte, events []chans.Event) {
	for _, b := range answers {
		spoil(b)
	}
	for _, e := range events {
		spoil(e.Bytes)
	}
	answers, events = answers[:cap(answers)], events[:cap(events)]
	for i := range answers {
		answers[i] = []byte("spoilt")
	}
	for i := range events {
		events[i] = chans.Event{Kind: 9, Chan: 9, Bytes: []byte("spoilt")}
	}
}

// move is one call: Do of bytes, or Send or Close of a channel.
type move struct {
	call  string
	ch    int
	bytes string
}

func do(payload string) move { return move{call: "Do", bytes: payload} }

func send(ch int, s string) move { return move{call: "Send", ch: ch, bytes: s} }

func shut(ch int) move { return move{call: "Close", ch: ch} }

// make makes the call with b in place of the move's bytes.
func (v move) make(m *chans.Mux, b []byte) ([][]byte, []chans.Event, api.Errno) {
	switch v.call {
	case "Do":
		answers, events := m.Do(b)
		return answers, events, api.OK
	case "Send":
		answers, why := m.Send(v.ch, b)
		return answers, nil, why
	}
	answers, why := m.Close(v.ch)
	return answers, nil, why
}

// inFull is all that a call answered, and what the Mux tells behind it.
func inFull(m *chans.Mux, answers [][]byte, events []chans.Event, why api.Errno) string {
	out := fmt.Sprintf("%x %d", answers, why)
	for _, e := range events {
		out += fmt.Sprintf(" %d:%d:%x", e.Kind, e.Chan, e.Bytes)
	}
	for ch := range 4 {
		out += fmt.Sprintf(" w%d", m.Waits(ch))
	}
	return out + fmt.Sprintf(" %v\n", m.Dead())
}

// severalTalks lead to each answer and each Event.
func severalTalks() [][]move {
	begun := func(l ...move) []move { return append([]move{do(open7), do(starts(0, wants))}, l...) }
	return [][]move{
		begun(do(data(0, "abc")), send(0, "0123456789abcdef"), send(0, "ghi"), do(more(0, 3)), send(0, "jk"), do(more(0, 99)), do(ending(0)), do(closing(0)), do(open7)),
		begun(send(0, "0123456789abcdef"), shut(0), do(data(0, "abc")), shut(0), send(0, "a"), do(closing(0))),
		begun(do(data(0, many("d", full))), do(data(0, many("e", full))), do(data(0, "f")), do("\x02x"), do("")),
		begun(do(opening("x11", 1, 2, 3)), do(session(1, 2, 0)), do(session(3, 0, 9)+"rest"), do(request(0, "shell", wants, "rest")), send(1, "abc"), send(0, "def"), do(more(1, 2))),
		begun(do(open7), do(open7), do(open7), do(open7), send(3, "abc"), send(9, "abc"), shut(-1)),
		begun(send(0, "0123456789abc"), do("\x01"), send(0, "a"), shut(0), do(open7)),
		begun(send(0, "0123456789abc"), do("\x14"), do(more(0, 9))),
		begun(do(ending(0)), do(data(0, "abc"))), begun(do(more(0, 1<<32-1))), {do(closing(0))}, {do("\x5a")}, {do(opening(at65, 1, 2, 3))},
	}
}

// plain is what a talk leads to with nobody changing anything.
func plain(talk []move) string {
	m, out := chans.New(), ""
	for _, v := range talk {
		answers, events, why := v.make(m, []byte(v.bytes))
		out += inFull(m, answers, events, why)
	}
	return out
}

func TestLeavesWhatIsHandedIn(t *testing.T) {
	for _, talk := range severalTalks() {
		m := chans.New()
		for _, v := range talk {
			b := withRoom(v.bytes)
			before := string(b[:cap(b)])
			answers, events, _ := v.make(m, b)
			if string(b[:cap(b)]) != before {
				t.Errorf("R2: %s of %s changed it", v.call, inWords(list(v.bytes)))
			}
			spoilAll(answers, events)
			if string(b[:cap(b)]) != before {
				t.Errorf("R2: %s of %s: the answer shares memory with it", v.call, inWords(list(v.bytes)))
			}
		}
	}
}

// TestKeepsNothingThatIsHandedIn: it may change when the call is over, and the room behind it is not read.
func TestKeepsNothingThatIsHandedIn(t *testing.T) {
	for i, talk := range severalTalks() {
		m, got := chans.New(), ""
		for _, v := range talk {
			b := withRoom(v.bytes)
			answers, events, why := v.make(m, b)
			spoil(b)
			got += inFull(m, answers, events, why)
		}
		if want := plain(talk); got != want {
			t.Errorf("R2: talk %d: with bytes that change later:\n%.2000swant\n%.2000s", i, got, want)
		}
	}
}

// TestAnswersAreNewMemory: whoever changes an answer or an Event, its spare room too, changes no other one, and not what is kept.
func TestAnswersAreNewMemory(t *testing.T) {
	for i, talk := range severalTalks() {
		m, other, got := chans.New(), chans.New(), ""
		var kept [][]byte
		for _, v := range talk {
			same, events, _ := v.make(other, []byte(v.bytes))
			kept = append(kept, same...)
			for _, e := range events {
				kept = append(kept, e.Bytes)
			}
			before := fmt.Sprintf("%x", kept)
			answers, events, why := v.make(m, []byte(v.bytes))
			got += inFull(m, answers, events, why)
			spoilAll(answers, events)
			if fmt.Sprintf("%x", kept) != before {
				t.Errorf("R2: %s of %s: two answers share memory", v.call, inWords(list(v.bytes)))
			}
		}
		if want := plain(talk); got != want || plain(talk) != want {
			t.Errorf("R2: talk %d: with answers that are changed:\n%.2000swant\n%.2000s", i, got, want)
		}
	}
}

// TestListsOfOneAnswerShareNothing: each is changed in its turn, with its spare room, and all others stay.
func TestListsOfOneAnswerShareNothing(t *testing.T) {
	var l [][]byte
	m := after(open7)
	sent, _ := m.Send(0, []byte("0123456789abcdefghij"))
	l = append(l, sent...)
	sent, _ = m.Do([]byte(more(0, 9)))
	l = append(l, sent...)
	m = after(open7, starts(0, wants), data(0, many("d", full)))
	answers, events := m.Do([]byte(data(0, "eee")))
	l = append(append(l, answers...), events[0].Bytes)
	if len(l) != 8 {
		t.Fatalf("P12.1, P12.2: %d lists; want 8", len(l))
	}
	for i := range l {
		before := fmt.Sprintf("%x", append(append([][]byte(nil), l[:i]...), l[i+1:]...))
		spoil(l[i])
		if fmt.Sprintf("%x", append(append([][]byte(nil), l[:i]...), l[i+1:]...)) != before {
			t.Errorf("R2: list %d shares memory with another one", i)
		}
	}
}

// TestReadsNoRoom: what would make a payload whole stands in the room behind it.
func TestReadsNoRoom(t *testing.T) {
	for _, payload := range []string{session(9, 5, 5), data(0, "abc"), more(0, 5), ending(0), closing(0), request(0, "shell", wants, "")} {
		for n := 1; n < len(payload); n++ {
			answers, events := after(open7).Do([]byte(payload)[:n])
			if len(answers) != 1 || string(answers[0]) != bye2 || len(events) != 0 {
				t.Errorf("R5: Do of %d bytes of %x: %x, %v", n, payload, answers, events)
			}
		}
	}
	m := after(open7)
	if got, _ := m.Send(0, []byte("abcdef")[:2]); len(got) != 1 || string(got[0]) != data(7, "ab") {
		t.Errorf("R5: Send of 2 bytes with room: %x", got)
	}
}
