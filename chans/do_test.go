package chans_test

import (
	"slices"
	"testing"

	"strongroom/api"
	"strongroom/chans"
)

func TestNew(t *testing.T) {
	m := chans.New()
	place{}.mustTell(t, "a new Mux", m, false)
	for ch := range 4 {
		mustRefuse(t, "a new Mux", m, ch, api.ErrNone)
	}
	other := chans.New()
	mustDo(t, "one of two", m, open7, list(opens(7, 0)))
	mustRefuse(t, "the other of two", other, 0, api.ErrNone)
	mustDo(t, "the other of two", other, session(3, 1, 1), list(opens(3, 0)))
}

func TestKindsOfEvents(t *testing.T) {
	if chans.Opened != 1 || chans.Came != 2 || chans.Ended != 3 || chans.Gone != 4 {
		t.Errorf("P12.1: the kinds of Events are %d, %d, %d, %d", chans.Opened, chans.Came, chans.Ended, chans.Gone)
	}
}

// TestRun is the chapter's, in bytes.
func TestRun(t *testing.T) {
	payload := "\x5a\x00\x00\x00\x07session\x00\x00\x00\x07\x00\x00\x03\xe8\x00\x00\x00\x64"
	want := "\x5b\x00\x00\x00\x07\x00\x00\x00\x00\x00\x01\x00\x00\x00\x00\x80\x00"
	m := chans.New()
	mustDo(t, "the run", m, payload, list(want))
	place{}.mustTell(t, "the run", m, false)
	mustSend(t, "the run", m, 0, many("x", 1001), 1, slices.Repeat(list(data(7, many("x", 100))), 10)...)
}

// TestExamples are the chapter's.
func TestExamples(t *testing.T) {
	m := after(open7, open7, open7, open7)
	mustDo(t, "a fifth session", m, session(9, 1, 1), list("\x5c\x00\x00\x00\x09\x00\x00\x00\x04\x00\x00\x00\x00\x00\x00\x00\x00"))
	mustSend(t, "Send of nothing", m, 0, "", 0)
}

// tails are whatever may stand behind a first byte.
func tails() []string {
	return []string{"", "\x00", "\xff", "\x5a", u32(0), u32(1), u32(4), u32(0) + u32(0), u32(0) + text("a"), u32(0) + text("abc") + "\x00", open7, open7[1:], starts(0, wants)[1:], "\xff\xff\xff\xff", text(at65), many("\x00", 40000)}
}

func TestDoOfNothing(t *testing.T) {
	for i, p := range append(living(), deadOnes()...) {
		dead := i >= len(living())
		p.mustPass(t, "", dead)
		m := p.make()
		if answers, events := m.Do(nil); len(answers)+len(events) != 0 {
			t.Errorf("P12.1: %s: Do(nil): %x, %v", p.name, answers, events)
		}
		p.mustTell(t, p.name+", behind nil", m, dead)
	}
}

func TestDoOfPassedKinds(t *testing.T) {
	for _, p := range living() {
		for _, kind := range []string{"\x02", "\x03", "\x04"} {
			for _, tail := range tails() {
				p.mustPass(t, kind+tail, false)
			}
		}
	}
}

// TestPassedKindsPass: what stands behind a 2, 3 or 4 is not done, and all goes on as ahead of it.
func TestPassedKindsPass(t *testing.T) {
	for _, passed := range []string{"", "\x02", "\x03" + open7, "\x04" + closing(0), "\x02" + closing(0)[1:]} {
		m := chans.New()
		mustDo(t, "ahead of 90", m, passed, nil)
		mustDo(t, "90", m, open7, list(opens(7, 0)))
		mustDo(t, "ahead of 98", m, passed, nil)
		mustDo(t, "98", m, starts(0, wants), list(success(7)), event(chans.Opened, 0))
		mustDo(t, "ahead of 94", m, passed, nil)
		mustDo(t, "94", m, data(0, "abc"), nil, came(0, "abc"))
		mustDo(t, "ahead of 97", m, passed, nil)
		mustDo(t, "97", m, closing(0), list(closing(7)), event(chans.Gone, 0))
	}
}

func TestDoOfOne(t *testing.T) {
	for _, p := range living() {
		for _, tail := range append(tails(), bye2[1:]) {
			m := p.make()
			mustDo(t, p.name, m, "\x01"+tail, nil)
			p.mustStayDead(t, p.name+", behind a 1", m)
		}
	}
}

func TestDoOfOtherKinds(t *testing.T) {
	for _, p := range living() {
		for kind := range 256 {
			switch kind {
			case 1, 2, 3, 4, 90, 93, 94, 96, 97, 98:
				continue
			}
			for _, tail := range tails() {
				p.mustEnd(t, string([]byte{byte(kind)})+tail)
			}
		}
	}
}

// TestDoOfDead: every first byte, with whatever stands behind it, and what would be right if the Mux were not dead.
func TestDoOfDead(t *testing.T) {
	for _, p := range deadOnes() {
		for kind := range 256 {
			for _, tail := range tails() {
				p.mustPass(t, string([]byte{byte(kind)})+tail, true)
			}
		}
		for _, payload := range rightPayloads(0) {
			p.mustPass(t, payload, true)
		}
		p.mustStayDead(t, p.name, p.make())
	}
}

// rightPayloads are those that name a channel, each as it may be.
func rightPayloads(ch uint32) []string {
	return []string{more(ch, 0), more(ch, 5), data(ch, ""), data(ch, "abc"), ending(ch), closing(ch), starts(ch, wants), starts(ch, wantsNot), request(ch, "shell", wants, ""), request(ch, "shell", wantsNot, "")}
}

// TestChannelsThatAreNotOpen: whatever names one ends the connection.
func TestChannelsThatAreNotOpen(t *testing.T) {
	for _, c := range []struct {
		p  place
		ch []uint32
	}{
		{living()[0], []uint32{0, 1, 2, 3}},
		{living()[1], []uint32{1, 2, 3}},
		{living()[4], []uint32{1, 2, 3}},
		{living()[6], []uint32{0, 1}},
		{living()[7], nil},
	} {
		for _, ch := range append(c.ch, 4, 5, 7, 255, 256, 1<<16, 1<<24, 1<<31, 1<<31-1, 1<<32-1, 1<<32-4) {
			for _, payload := range rightPayloads(ch) {
				c.p.mustEnd(t, payload)
			}
		}
	}
}
