package chans_test

import (
	"math"
	"testing"

	"strongroom/api"
	"strongroom/chans"
)

// TestMoreSendsOn: with less than what waits, with as much, and with more than it.
func TestMoreSendsOn(t *testing.T) {
	for _, c := range []struct {
		n     uint32
		waits int
		sent  []string
	}{
		{0, 9, nil},
		{1, 8, list("a")},
		{3, 6, list("abc")},
		{4, 5, list("abcd")},
		{5, 4, list("abcd", "e")},
		{8, 1, list("abcd", "efgh")},
		{9, 0, list("abcd", "efgh", "i")},
		{10, 0, list("abcd", "efgh", "i")},
		{1 << 31, 0, list("abcd", "efgh", "i")},
		{math.MaxUint32, 0, list("abcd", "efgh", "i")},
	} {
		m := after(open7)
		mustSend(t, "ahead of a 93", m, 0, "0123456789abcdefghi", 9, data(7, "0123"), data(7, "4567"), data(7, "89"))
		var want []string
		for _, s := range c.sent {
			want = append(want, data(7, s))
		}
		mustDo(t, "a 93", m, more(0, c.n), want)
		mustWait(t, "a 93", m, 0, c.waits)
	}
}

// TestMoreInGoes: what is left of a window by one 93 is there for the next Send, and waits on for the next 93.
func TestMoreInGoes(t *testing.T) {
	m := after(session(9, 0, 3))
	mustDo(t, "nothing waits", m, more(0, 2), nil)
	mustSend(t, "two by the 93", m, 0, "abcdefgh", 6, data(9, "ab"))
	mustDo(t, "of 0", m, more(0, 0), nil)
	mustWait(t, "of 0", m, 0, 6)
	mustDo(t, "of 1", m, more(0, 1), list(data(9, "c")))
	mustDo(t, "of 1", m, more(0, 1), list(data(9, "d")))
	mustSend(t, "behind what waits", m, 0, "ij", 6)
	mustDo(t, "of 4", m, more(0, 4), list(data(9, "efg"), data(9, "h")))
	mustDo(t, "of 7", m, more(0, 7), list(data(9, "ij")))
	mustSend(t, "what is left", m, 0, "klmnopq", 2, data(9, "klm"), data(9, "no"))
}

func TestMoreOfEachChannel(t *testing.T) {
	m := after(session(20, 0, 9), session(21, 0, 9), session(22, 0, 9), session(23, 0, 9))
	for ch := range 4 {
		mustSend(t, "each channel", m, ch, "abc", 3)
	}
	for _, ch := range []uint32{2, 0, 3, 1} {
		mustDo(t, "each channel", m, more(ch, 2), list(data(20+ch, "ab")))
		mustWait(t, "each channel", m, int(ch), 1)
	}
}

// TestMoreToTheEnd: a window goes to 2^32 - 1, and one that goes beyond ends the connection, with what waits too.
func TestMoreToTheEnd(t *testing.T) {
	for _, c := range []struct{ window, n uint32 }{{0, math.MaxUint32}, {1, math.MaxUint32 - 1}, {10, math.MaxUint32 - 10}, {math.MaxUint32 - 1, 1}, {math.MaxUint32, 0}, {1 << 31, 1<<31 - 1}} {
		m := after(session(7, c.window, 4))
		mustDo(t, "to the end", m, more(0, c.n), nil)
		mustDo(t, "nothing beyond it", m, more(0, 0), nil)
		if m.Dead() {
			t.Errorf("P12.1: %d and %d: dead", c.window, c.n)
		}
		at := place{name: "at the end", make: func() *chans.Mux { return after(session(7, c.window, 4), more(0, c.n)) }}
		for _, beyond := range []uint32{1, 2, 1 << 31, math.MaxUint32} {
			at.mustEnd(t, more(0, beyond))
		}
		if c.n < math.MaxUint32 {
			place{name: "one beyond", make: func() *chans.Mux { return after(session(7, c.window, 4)) }}.mustEnd(t, more(0, c.n+1))
		}
	}
	m := after(session(7, math.MaxUint32, 4))
	mustSend(t, "used up a bit", m, 0, "abcde", 0, data(7, "abcd"), data(7, "e"))
	mustDo(t, "used up a bit", m, more(0, 5), nil)
	mustDo(t, "full again", m, more(0, 1), list(bye2))
}

// TestMoreCountsWhatIsSent: the window is n more first, and what waits is sent then: with a full window of 2^32 - 1 all may go.
func TestMoreCountsWhatIsSent(t *testing.T) {
	m := after(session(7, 0, full))
	mustSend(t, "no window", m, 0, "abc", 3)
	mustDo(t, "the widest", m, more(0, math.MaxUint32), list(data(7, "abc")))
	mustDo(t, "as wide as it was", m, more(0, 3), nil)
	mustDo(t, "too wide", m, more(0, 1), list(bye2))
	mustRefuse(t, "too wide", m, 0, api.ErrDead)
}

func TestMoreThatIsNotSo(t *testing.T) {
	for _, p := range living()[1:6] {
		p.mustEndCut(t, more(0, 5))
		p.mustEnd(t, more(0, 5)+"\x00")
		p.mustEnd(t, more(0, 0)+more(0, 0))
		p.mustEnd(t, more(0, math.MaxUint32)+"\x00")
	}
}

// TestMoreBehindClose: nothing waits any more, but the window is still counted.
func TestMoreBehindClose(t *testing.T) {
	m := withWaiting()
	mustClose(t, "Close", m, 0, 7)
	mustDo(t, "behind Close", m, more(0, 100), nil)
	mustDo(t, "behind Close", m, more(0, math.MaxUint32-100), nil)
	mustDo(t, "behind Close, too wide", m, more(0, 1), list(bye2))
	place{}.mustStayDead(t, "behind Close, too wide", m)
}
