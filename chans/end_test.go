package chans_test

import (
	"testing"

	"strongroom/api"
	"strongroom/chans"
)

func TestEnd(t *testing.T) {
	for _, c := range []struct {
		name string
		m    *chans.Mux
	}{
		{"ahead of Opened", after(open7)},
		{"behind Opened", after(open7, starts(0, wants))},
		{"behind data", after(open7, starts(0, wants), data(0, "abc"))},
		{"behind Close", withClosed()},
	} {
		mustDo(t, c.name, c.m, ending(0), nil, event(chans.Ended, 0))
		if c.m.Dead() {
			t.Errorf("P12.1: %s: dead by a 96", c.name)
		}
		mustDo(t, c.name+", a second 96", c.m, ending(0), list(bye2))
		place{}.mustStayDead(t, c.name+", a second 96", c.m)
	}
}

// TestEndOfEachChannel: one that has Ended ends no other.
func TestEndOfEachChannel(t *testing.T) {
	m := after(open7, open7, open7, open7)
	for _, ch := range []uint32{2, 0, 3, 1} {
		mustDo(t, "each channel", m, ending(ch), nil, event(chans.Ended, int(ch)))
	}
	mustDo(t, "a second 96", m, ending(3), list(bye2))
}

// TestBehindEnd: 93, 97 and 98 are still taken, and this end still sends.
func TestBehindEnd(t *testing.T) {
	m := withWaiting()
	mustDo(t, "96", m, ending(0), nil, event(chans.Ended, 0))
	mustWait(t, "behind a 96", m, 0, 3)
	mustDo(t, "behind a 96", m, more(0, 2), list(data(7, "ab")))
	mustSend(t, "behind a 96", m, 0, "de", 3)
	mustDo(t, "behind a 96", m, starts(0, wants), list(failure(7)))
	mustDo(t, "behind a 96", m, more(0, 7), list(data(7, "cde")))
	mustSend(t, "behind a 96", m, 0, "f", 0, data(7, "f"))
	mustDo(t, "97", m, closing(0), list(closing(7)), event(chans.Gone, 0))
	m = after(open7, ending(0))
	mustDo(t, "a first 98 behind a 96", m, starts(0, wants), list(success(7)), event(chans.Opened, 0))
	mustClose(t, "behind a 96", m, 0, 7)
}

func TestEndThatIsNotSo(t *testing.T) {
	for _, p := range living()[1:6] {
		for _, payload := range []string{ending(0), closing(0)} {
			p.mustEndCut(t, payload)
			p.mustEnd(t, payload+"\x00")
			p.mustEnd(t, payload+payload)
		}
	}
}

func TestTheirClose(t *testing.T) {
	for _, p := range living()[1:5] {
		m := p.make()
		mustDo(t, p.name, m, closing(0), list(closing(7)), event(chans.Gone, 0))
		place{}.mustTell(t, p.name+", gone", m, false)
		mustRefuse(t, p.name+", gone", m, 0, api.ErrNone)
		mustDo(t, p.name+", free again", m, session(5, 1, 1), list(opens(5, 0)))
		mustSend(t, p.name+", free again", m, 0, "ab", 1, data(5, "a"))
		mustDo(t, p.name+", free again", m, closing(0), list(closing(5)), event(chans.Gone, 0))
		mustDo(t, p.name+", of one that is free", m, closing(0), list(bye2))
	}
}

// TestTheirCloseBehindOurs: our 97 is not sent a second time.
func TestTheirCloseBehindOurs(t *testing.T) {
	m := withWaiting()
	mustClose(t, "our 97", m, 0, 7)
	mustDo(t, "theirs", m, closing(0), nil, event(chans.Gone, 0))
	place{}.mustTell(t, "both", m, false)
	mustRefuse(t, "both", m, 0, api.ErrNone)
	mustDo(t, "free again", m, open7, list(opens(7, 0)))
	mustClose(t, "free again", m, 0, 7)
	mustDo(t, "theirs again", m, closing(0), nil, event(chans.Gone, 0))
	mustDo(t, "free again", m, open7, list(opens(7, 0)))
	mustDo(t, "theirs first", m, closing(0), list(closing(7)), event(chans.Gone, 0))
}

// TestTheirCloseOfEachChannel: one that is gone takes nothing from the others.
func TestTheirCloseOfEachChannel(t *testing.T) {
	m := after(session(20, 0, 9), session(21, 0, 9), session(22, 0, 9), session(23, 0, 9))
	for ch := range 4 {
		mustSend(t, "each channel", m, ch, "abc", 3)
	}
	mustDo(t, "one of them", m, closing(1), list(closing(21)), event(chans.Gone, 1))
	mustClose(t, "one more of them", m, 3, 23)
	mustDo(t, "one more of them", m, closing(3), nil, event(chans.Gone, 3))
	place{waits: [4]int{3, 0, 3, 0}}.mustTell(t, "the others", m, false)
	mustDo(t, "the others", m, more(2, 9), list(data(22, "abc")))
	mustDo(t, "the others", m, more(0, 9), list(data(20, "abc")))
}
