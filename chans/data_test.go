package chans_test

import (
	"testing"

	"strongroom/chans"
)

func TestDataAheadOfOpened(t *testing.T) {
	m := after(open7)
	for _, s := range []string{"", "a", "early"} {
		mustDo(t, "ahead of Opened", m, data(0, s), nil)
	}
	mustDo(t, "98", m, starts(0, wantsNot), nil, event(chans.Opened, 0))
	for _, s := range []string{"a", "late", "\x00\xff", "a"} {
		mustDo(t, "behind Opened", m, data(0, s), nil, came(0, s))
	}
	mustDo(t, "nothing, behind Opened", m, data(0, ""), nil)
	place{}.mustTell(t, "94", m, false)
}

// TestDataOfEachChannel: channels have windows and Events of their own.
func TestDataOfEachChannel(t *testing.T) {
	m := after(session(20, 1, 1), session(21, 1, 1), session(22, 1, 1), session(23, 1, 1), starts(0, wants), starts(1, wants), starts(3, wants))
	for round := range 2 {
		for ch := range uint32(4) {
			s := many(string([]byte{'a' + byte(ch)}), full)
			var answers []string
			var events []chans.Event
			if round == 1 {
				answers = list(more(20+ch, 2*full))
			}
			if ch != 2 {
				events = append(events, came(int(ch), s))
			}
			mustDo(t, "each channel", m, data(ch, s), answers, events...)
		}
	}
}

// TestDataSizes: our window by sizes of what comes, and what it lacks where a 93 must be.
func TestDataSizes(t *testing.T) {
	for i, c := range []struct{ sizes, lacks []int }{
		{[]int{full, full}, []int{0, 65536}},
		{[]int{full, 0, 1}, []int{0, 0, 32769}},
		{[]int{full - 1, 1, 1}, []int{0, 0, 32769}},
		{[]int{full - 1, 2}, []int{0, 32769}},
		{[]int{1, full}, []int{0, 32769}},
		{[]int{full, full - 1}, []int{0, 65535}},
		{[]int{full - 1, full}, []int{0, 65535}},
		{[]int{1, full - 1, full}, []int{0, 0, 65536}},
		{[]int{full, full, full, full, 1}, []int{0, 65536, 0, 65536, 0}},
		{[]int{full, 1, full, 1, full, full}, []int{0, 32769, 0, 32769, 0, 65536}},
		{[]int{0, 0, full, 0, full, 0}, []int{0, 0, 0, 0, 65536, 0}},
		{[]int{20000, 20000, 20000, 12768, 1}, []int{0, 40000, 0, 0, 32769}},
	} {
		for _, opened := range []bool{false, true} {
			m := after(open7)
			if opened {
				m.Do([]byte(starts(0, wantsNot)))
			}
			for j, size := range c.sizes {
				var answers []string
				var events []chans.Event
				if c.lacks[j] > 0 {
					answers = list(more(7, uint32(c.lacks[j])))
				}
				if opened && size > 0 {
					events = append(events, came(0, many("d", size)))
				}
				mustDo(t, "sizes", m, data(0, many("d", size)), answers, events...)
			}
			if m.Dead() {
				t.Errorf("P12.1: case %d: dead by right sizes", i)
			}
		}
	}
}

// TestDataByBytes: byte by byte our window is full again behind each 32769th one.
func TestDataByBytes(t *testing.T) {
	m := after(open7, starts(0, wantsNot))
	for n := 1; n <= 100000 && !t.Failed(); n++ {
		var answers []string
		if n%(full+1) == 0 {
			answers = list(more(7, full+1))
		}
		mustDo(t, "byte by byte", m, data(0, "d"), answers, came(0, "d"))
	}
}

func TestDataThatIsNotSo(t *testing.T) {
	for _, p := range living()[1:6] {
		p.mustEndCut(t, data(0, ""))
		p.mustEndCut(t, data(0, "abcdef"))
		p.mustEnd(t, data(0, "")+"\x00")
		p.mustEnd(t, data(0, "abc")+"d")
		p.mustEnd(t, data(0, many("d", full))+"d")
		p.mustEnd(t, data(0, many("d", full))[:full])
		p.mustEnd(t, data(0, many("d", full+1)))
		p.mustEnd(t, data(0, many("d", 65536)))
		p.mustEnd(t, data(0, many("d", 65537)))
		p.mustEnd(t, "\x5e"+u32(0)+"\xff\xff\xff\xffabc")
	}
}

// TestDataBehindEnd: whatever it holds, it ends the connection.
func TestDataBehindEnd(t *testing.T) {
	for _, p := range []place{
		{name: "behind Ended", make: func() *chans.Mux { return after(open7, starts(0, wants), ending(0)) }},
		{name: "behind Ended, ahead of Opened", make: func() *chans.Mux { return after(open7, ending(0)) }},
		{name: "behind Ended, and then Opened", make: func() *chans.Mux { return after(open7, ending(0), starts(0, wants)) }},
		{name: "behind Close and Ended", make: func() *chans.Mux {
			m := withClosed()
			m.Do([]byte(ending(0)))
			return m
		}},
	} {
		for _, s := range []string{"", "a", many("d", full)} {
			p.mustEnd(t, data(0, s))
		}
	}
	m := after(open7, session(8, 1, 1), starts(1, wants), ending(0))
	mustDo(t, "another channel", m, data(1, "abc"), nil, came(1, "abc"))
}
