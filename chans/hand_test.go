package chans_test

import (
	"fmt"
	"math"
	"slices"
	"strings"
	"testing"

	"strongroom/api"
	"strongroom/chans"
)

// bye2 is the Bye that ends a connection that breaks the rules, written by hand.
const bye2 = "\x01\x00\x00\x00\x02\x00\x00\x00\x00\x00\x00\x00\x00"

// full is as much as one 94 may hold, and half of our window.
const full = 32768

// Texts as long as a kind may be, and one byte longer.
var (
	at64 = strings.Repeat("x", 64)
	at65 = strings.Repeat("x", 65)
)

func u32(n uint32) string { return string([]byte{byte(n >> 24), byte(n >> 16), byte(n >> 8), byte(n)}) }

// text is the Text of s.
func text(s string) string { return u32(uint32(len(s))) + s }

// Payloads that come in, and some of them go out too: ch is then the other end's number.

func opening(kind string, theirs, window, most uint32) string {
	return "\x5a" + text(kind) + u32(theirs) + u32(window) + u32(most)
}

func session(theirs, window, most uint32) string { return opening("session", theirs, window, most) }

func more(ch, n uint32) string { return "\x5d" + u32(ch) + u32(n) }

func data(ch uint32, s string) string { return "\x5e" + u32(ch) + text(s) }

func ending(ch uint32) string { return "\x60" + u32(ch) }

func closing(ch uint32) string { return "\x61" + u32(ch) }

func request(ch uint32, kind, want, rest string) string {
	return "\x62" + u32(ch) + text(kind) + want + rest
}

// starts asks for the one subsystem.
func starts(ch uint32, want string) string { return request(ch, "subsystem", want, text("sftp")) }

const (
	wants    = "\x01"
	wantsNot = "\x00"
)

// Payloads that go out.

func opens(theirs, ours uint32) string {
	return "\x5b" + u32(theirs) + u32(ours) + "\x00\x01\x00\x00" + "\x00\x00\x80\x00"
}

func refuses(theirs, reason uint32) string {
	return "\x5c" + u32(theirs) + u32(reason) + u32(0) + u32(0)
}

func success(theirs uint32) string { return "\x63" + u32(theirs) }

func failure(theirs uint32) string { return "\x64" + u32(theirs) }

func came(ch int, s string) chans.Event {
	return chans.Event{Kind: chans.Came, Chan: ch, Bytes: []byte(s)}
}

func event(kind, ch int) chans.Event { return chans.Event{Kind: kind, Chan: ch} }

func list(l ...string) []string { return l }

func many(s string, n int) string { return strings.Repeat(s, n) }

// inWords tells lists of bytes, those that are long in short.
func inWords(l []string) string {
	out := ""
	for i, s := range l {
		if i == 20 {
			out += fmt.Sprintf("..(%d lists)", len(l))
			break
		}
		if len(s) > 80 {
			out += fmt.Sprintf("%x..(%d bytes) ", s[:80], len(s))
		} else {
			out += fmt.Sprintf("%x ", s)
		}
	}
	return "[" + strings.TrimSpace(out) + "]"
}

// eventsInWords tells Events, those with many bytes in short.
func eventsInWords(l []chans.Event) string {
	out := ""
	for _, e := range l {
		out += fmt.Sprintf("%d:%d:%s ", e.Kind, e.Chan, inWords(list(string(e.Bytes))))
	}
	return "[" + strings.TrimSpace(out) + "]"
}

func asTexts(l [][]byte) []string {
	var out []string
	for _, b := range l {
		out = append(out, string(b))
	}
	return out
}

// sameEvents: nil and empty Bytes mean the same.
func sameEvents(x, y []chans.Event) bool {
	if len(x) != len(y) {
		return false
	}
	for i := range x {
		if x[i].Kind != y[i].Kind || x[i].Chan != y[i].Chan || string(x[i].Bytes) != string(y[i].Bytes) {
			return false
		}
	}
	return true
}

// mustDo looks at what Do answers and tells.
func mustDo(t *testing.T, what string, m *chans.Mux, payload string, answers []string, events ...chans.Event) {
	t.Helper()
	got, happened := m.Do([]byte(payload))
	if !slices.Equal(asTexts(got), answers) || !sameEvents(happened, events) {
		t.Errorf("P12.1: %s: Do(%s): %s, %s; want %s, %s", what, inWords(list(payload)), inWords(asTexts(got)), eventsInWords(happened), inWords(answers), eventsInWords(events))
	}
}

// mustSend looks at what Send answers when it doesn't refuse, and at what waits then.
func mustSend(t *testing.T, what string, m *chans.Mux, ch int, s string, waits int, answers ...string) {
	t.Helper()
	got, why := m.Send(ch, []byte(s))
	if !slices.Equal(asTexts(got), answers) || why != api.OK {
		t.Errorf("P12.2: %s: Send(%d, %s): %s, %d; want %s", what, ch, inWords(list(s)), inWords(asTexts(got)), why, inWords(answers))
	}
	mustWait(t, what, m, ch, waits)
}

// mustClose looks at what Close answers when it doesn't refuse.
func mustClose(t *testing.T, what string, m *chans.Mux, ch int, theirs uint32) {
	t.Helper()
	got, why := m.Close(ch)
	if !slices.Equal(asTexts(got), list(closing(theirs))) || why != api.OK {
		t.Errorf("P12.2: %s: Close(%d): %s, %d", what, ch, inWords(asTexts(got)), why)
	}
	mustWait(t, what, m, ch, 0)
}

func mustWait(t *testing.T, what string, m *chans.Mux, ch, want int) {
	t.Helper()
	if got := m.Waits(ch); got != want {
		t.Errorf("P12.2: %s: Waits(%d) tells %d; want %d", what, ch, got, want)
	}
}

// mustRefuse: Send and Close of that channel are refused with why, and nothing waits otherwise.
func mustRefuse(t *testing.T, what string, m *chans.Mux, ch int, why api.Errno) {
	t.Helper()
	before, dead := m.Waits(ch), m.Dead()
	for _, b := range [][]byte{nil, {}, []byte("a"), make([]byte, 70000)} {
		if got, no := m.Send(ch, b); len(got) != 0 || no != why {
			t.Errorf("P12.2: %s: Send(%d) of %d bytes: %s, %d; want %d", what, ch, len(b), inWords(asTexts(got)), no, why)
		}
	}
	if got, no := m.Close(ch); len(got) != 0 || no != why {
		t.Errorf("P12.2: %s: Close(%d): %s, %d; want %d", what, ch, inWords(asTexts(got)), no, why)
	}
	mustWait(t, what, m, ch, before)
	if m.Dead() != dead {
		t.Errorf("P12.2: %s: a call that is refused changes what Dead tells", what)
	}
}

// noChannels are numbers that are none of a channel.
func noChannels() []int {
	return []int{-1, 4, 5, 255, 256, 1 << 16, 1 << 31, 1 << 32, 1<<32 + 1, math.MaxInt, math.MinInt}
}

// place is how far a Mux has come, and what it tells there.
type place struct {
	name  string
	make  func() *chans.Mux
	waits [4]int
}

// after is a Mux that was given these payloads.
func after(payloads ...string) *chans.Mux {
	m := chans.New()
	for _, payload := range payloads {
		m.Do([]byte(payload))
	}
	return m
}

// open7 opens channel 0 of a new Mux: theirs is 7, ten bytes may be sent, four in each packet.
var open7 = session(7, 10, 4)

func withWaiting() *chans.Mux {
	m := after(open7, starts(0, wants))
	m.Send(0, []byte("0123456789abc"))
	return m
}

func withClosed() *chans.Mux {
	m := after(open7, starts(0, wants))
	m.Close(0)
	return m
}

// withAll has all channels open, each in another state.
func withAll() *chans.Mux {
	m := after(open7, session(8, 0, 1), session(7, math.MaxUint32, math.MaxUint32), session(math.MaxUint32, 1, 1), starts(0, wants), starts(2, wants), ending(2))
	m.Send(1, []byte("ab"))
	m.Close(3)
	return m
}

// living are the places where a Mux is not dead.
func living() []place {
	return []place{
		{name: "a new Mux", make: func() *chans.Mux { return chans.New() }},
		{name: "with an open channel", make: func() *chans.Mux { return after(open7) }},
		{name: "behind Opened", make: func() *chans.Mux { return after(open7, starts(0, wants)) }},
		{name: "behind Ended", make: func() *chans.Mux { return after(open7, starts(0, wants), ending(0)) }},
		{name: "with something that waits", make: withWaiting, waits: [4]int{3}},
		{name: "behind Close", make: withClosed},
		{name: "behind Gone", make: func() *chans.Mux { return after(open7, starts(0, wants), closing(0)) }},
		{name: "with all channels open", make: withAll, waits: [4]int{0, 2}},
	}
}

// deadOnes are the places where a Mux is dead, each with a channel open, by each of the ways.
func deadOnes() []place {
	by := func(payload string) func() *chans.Mux {
		return func() *chans.Mux { return after(open7, starts(0, wants), payload) }
	}
	waiting := func(payload string) func() *chans.Mux {
		return func() *chans.Mux {
			m := withWaiting()
			m.Do([]byte(payload))
			return m
		}
	}
	return []place{
		{name: "dead by a 1", make: by("\x01")},
		{name: "dead by another kind", make: by("\x14")},
		{name: "dead by a 90 that is cut off", make: by("\x5a")},
		{name: "dead by a channel that is not open", make: by(ending(1))},
		{name: "dead by a 93", make: by(more(0, math.MaxUint32))},
		{name: "dead by a 94 that is cut off", make: by(data(0, "abc")[:9])},
		{name: "dead by a 1, with something that waits", make: waiting("\x01"), waits: [4]int{3}},
		{name: "dead by another kind, with something that waits", make: waiting("\x5f"), waits: [4]int{3}},
	}
}

// mustTell looks at what Waits and Dead tell.
func (p place) mustTell(t *testing.T, what string, m *chans.Mux, dead bool) {
	t.Helper()
	for ch, want := range p.waits {
		mustWait(t, what, m, ch, want)
	}
	for _, ch := range noChannels() {
		mustWait(t, what, m, ch, 0)
	}
	if m.Dead() != dead {
		t.Errorf("P12.1: %s: Dead tells %v", what, m.Dead())
	}
}

// mustPass: at that place nothing is answered, and nothing is told otherwise.
func (p place) mustPass(t *testing.T, payload string, dead bool) {
	t.Helper()
	m := p.make()
	mustDo(t, p.name, m, payload, nil)
	p.mustTell(t, p.name+", behind "+inWords(list(payload)), m, dead)
}

// mustEnd: at that place the Bye alone is answered, and the Mux is dead from then on, whatever comes.
func (p place) mustEnd(t *testing.T, payload string) {
	t.Helper()
	m := p.make()
	mustDo(t, p.name, m, payload, list(bye2))
	p.mustStayDead(t, p.name+", behind "+inWords(list(payload)), m)
}

// mustStayDead: behind dead nothing is answered, told or sent.
func (p place) mustStayDead(t *testing.T, what string, m *chans.Mux) {
	t.Helper()
	p.mustTell(t, what, m, true)
	for _, later := range []string{"", "\x01", "\x02", "\x14", open7, starts(0, wants), data(0, "abc"), more(0, 9), ending(0), closing(0)} {
		mustDo(t, what+", dead", m, later, nil)
	}
	for ch := range 4 {
		mustRefuse(t, what+", dead", m, ch, api.ErrDead)
	}
	p.mustTell(t, what+", dead", m, true)
}

// mustEndCut: each beginning of the payload ends the connection, but the empty one.
func (p place) mustEndCut(t *testing.T, payload string) {
	t.Helper()
	for n := 1; n < len(payload); n++ {
		p.mustEnd(t, payload[:n])
	}
}
