package chans_test

import (
	"math"
	"testing"

	"strongroom/api"
	"strongroom/chans"
)

// TestOpenOfOtherKinds: the kind comes first, whatever else would be refused.
func TestOpenOfOtherKinds(t *testing.T) {
	for _, p := range living() {
		for _, kind := range []string{"", "x11", "direct-tcpip", "Session", "session ", "sessio", "session\x00", "\xff", at64} {
			for _, theirs := range []uint32{0, 9, math.MaxUint32} {
				for _, most := range []uint32{0, 1, math.MaxUint32} {
					m := p.make()
					mustDo(t, p.name, m, opening(kind, theirs, 5, most), list(refuses(theirs, 3)))
					p.mustTell(t, p.name+", behind a 92", m, false)
				}
			}
		}
		p.mustEnd(t, opening(at65, 9, 5, 5))
		p.mustEnd(t, opening(many("session", 10), 9, 5, 5))
	}
}

func TestOpenWithMostNought(t *testing.T) {
	for _, p := range living() {
		for _, window := range []uint32{0, 1, math.MaxUint32} {
			m := p.make()
			mustDo(t, p.name, m, session(9, window, 0), list(refuses(9, 4)))
			p.mustTell(t, p.name+", behind a 92", m, false)
		}
	}
	m := chans.New()
	mustDo(t, "most 0", m, session(9, 5, 0), list(refuses(9, 4)))
	mustRefuse(t, "most 0", m, 0, api.ErrNone)
	mustDo(t, "behind most 0", m, session(9, 5, 1), list(opens(9, 0)))
}

// TestOpenWithEnds: the windows and packets that are told by the other end, at their ends.
func TestOpenWithEnds(t *testing.T) {
	for _, c := range []struct {
		window, most uint32
		size         int
		sent         []int
	}{
		{0, 1, 3, nil},
		{0, math.MaxUint32, 3, nil},
		{1, 1, 3, []int{1}},
		{3, 1, 3, []int{1, 1, 1}},
		{1, math.MaxUint32, 3, []int{1}},
		{math.MaxUint32, 1, 3, []int{1, 1, 1}},
		{math.MaxUint32, 2, 3, []int{2, 1}},
		{math.MaxUint32, math.MaxUint32, 70000, []int{full, full, 4464}},
		{1 << 31, 1 << 31, 70000, []int{full, full, 4464}},
		{70000, full - 1, 70000, []int{full - 1, full - 1, 4466}},
		{70000, full, 70000, []int{full, full, 4464}},
		{70000, full + 1, 70000, []int{full, full, 4464}},
		{full, full, 70000, []int{full}},
		{full + 1, full, 70000, []int{full, 1}},
		{2 * full, full, 70000, []int{full, full}},
	} {
		m := chans.New()
		mustDo(t, "ends", m, session(1<<31, c.window, c.most), list(opens(1<<31, 0)))
		var want []string
		waits := c.size
		for _, size := range c.sent {
			want = append(want, data(1<<31, many("y", size)))
			waits -= size
		}
		mustSend(t, "ends", m, 0, many("y", c.size), waits, want...)
	}
}

func TestOpenCutOff(t *testing.T) {
	for _, p := range living() {
		p.mustEndCut(t, session(9, 5, 5))
		p.mustEndCut(t, session(9, 5, 0))
		p.mustEndCut(t, opening("x11", 9, 5, 5))
		p.mustEnd(t, "\x5a\xff\xff\xff\xff"+session(9, 5, 5)[5:])
	}
}

// TestOpenWithRest: whatever stands behind the numbers is passed by.
func TestOpenWithRest(t *testing.T) {
	for _, rest := range []string{"\x00", "rest", "\xff\xff\xff\xff", session(1, 1, 1), many("\x5a", 40000)} {
		m := chans.New()
		mustDo(t, "a rest", m, session(9, 5, 5)+rest, list(opens(9, 0)))
		mustDo(t, "a rest", m, opening("x11", 9, 5, 5)+rest, list(refuses(9, 3)))
		mustDo(t, "a rest", m, session(9, 5, 0)+rest, list(refuses(9, 4)))
		mustDo(t, "behind a rest", m, session(8, 5, 5), list(opens(8, 1)))
	}
}

// TestOpenTakesTheLeast: of the channels that are free, whichever those are.
func TestOpenTakesTheLeast(t *testing.T) {
	for free := range 16 {
		m := chans.New()
		for ch := range uint32(4) {
			mustDo(t, "one by one", m, session(10+ch, 1, 1), list(opens(10+ch, ch)))
		}
		mustDo(t, "the first that is too many", m, session(99, 1, 1), list(refuses(99, 4)))
		mustDo(t, "too many, of another kind", m, opening("x11", 99, 1, 1), list(refuses(99, 3)))
		for ch := range uint32(4) {
			if free>>ch&1 == 1 {
				mustDo(t, "one becomes free", m, closing(ch), list(closing(10+ch)), event(chans.Gone, int(ch)))
			}
		}
		for ch := range uint32(4) {
			if free>>ch&1 == 1 {
				mustDo(t, "behind one that became free", m, session(20+ch, 1, 1), list(opens(20+ch, ch)))
			}
		}
		mustDo(t, "too many again", m, session(99, 1, 1), list(refuses(99, 4)))
		for ch := range uint32(4) {
			theirs := 10 + ch + 10*uint32(free>>ch&1)
			mustSend(t, "each has its own number", m, int(ch), "z", 0, data(theirs, "z"))
		}
	}
}

// TestOpenBehindClose: a channel that was closed here is not free till the other end closes it.
func TestOpenBehindClose(t *testing.T) {
	m := after(open7, session(8, 1, 1), session(9, 1, 1), session(10, 1, 1))
	mustClose(t, "Close", m, 2, 9)
	mustDo(t, "behind Close", m, session(11, 1, 1), list(refuses(11, 4)))
	mustDo(t, "their 97", m, closing(2), nil, event(chans.Gone, 2))
	mustDo(t, "behind their 97", m, session(11, 1, 1), list(opens(11, 2)))
	mustSend(t, "behind their 97", m, 2, "z", 0, data(11, "z"))
}

// TestOpenAnew: a channel that became free keeps nothing of what it was.
func TestOpenAnew(t *testing.T) {
	m := withWaiting()
	mustDo(t, "94", m, data(0, many("d", full)), nil, came(0, many("d", full)))
	mustDo(t, "96", m, ending(0), nil, event(chans.Ended, 0))
	mustClose(t, "Close", m, 0, 7)
	mustDo(t, "97", m, closing(0), nil, event(chans.Gone, 0))
	mustDo(t, "anew", m, session(5, 2, 1), list(opens(5, 0)))
	mustWait(t, "anew", m, 0, 0)
	mustSend(t, "anew", m, 0, "abc", 1, data(5, "a"), data(5, "b"))
	mustDo(t, "anew, ahead of Opened", m, data(0, many("d", full)), nil)
	mustDo(t, "anew, 98", m, starts(0, wants), list(success(5)), event(chans.Opened, 0))
	mustDo(t, "anew, 94", m, data(0, "d"), list(more(5, full+1)), came(0, "d"))
	mustDo(t, "anew, 96", m, ending(0), nil, event(chans.Ended, 0))
	mustDo(t, "anew, 97", m, closing(0), list(closing(5)), event(chans.Gone, 0))
}
