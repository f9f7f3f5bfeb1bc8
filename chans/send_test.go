package chans_test

import (
	"math"
	"testing"

	"strongroom/api"
	"strongroom/chans"
)

func TestSend(t *testing.T) {
	for _, c := range []struct {
		s     string
		waits int
		sent  []string
	}{
		{"", 0, nil},
		{"a", 0, list("a")},
		{"abcd", 0, list("abcd")},
		{"abcde", 0, list("abcd", "e")},
		{"abcdefgh", 0, list("abcd", "efgh")},
		{"abcdefghi", 0, list("abcd", "efgh", "i")},
		{"abcdefghij", 0, list("abcd", "efgh", "ij")},
		{"abcdefghijk", 1, list("abcd", "efgh", "ij")},
		{many("\x00", 20000), 19990, list("\x00\x00\x00\x00", "\x00\x00\x00\x00", "\x00\x00")},
	} {
		for _, m := range []*chans.Mux{after(open7), after(open7, starts(0, wants)), after(open7, ending(0))} {
			var want []string
			for _, s := range c.sent {
				want = append(want, data(7, s))
			}
			mustSend(t, "all at once", m, 0, c.s, c.waits, want...)
		}
	}
}

func TestSendOfNil(t *testing.T) {
	m := after(open7)
	for _, b := range [][]byte{nil, {}} {
		if got, why := m.Send(0, b); len(got) != 0 || why != api.OK {
			t.Errorf("P12.2: Send of nothing: %x, %d", got, why)
		}
		mustWait(t, "nothing", m, 0, 0)
	}
}

func TestSendInGoes(t *testing.T) {
	m := after(open7)
	mustSend(t, "in goes", m, 0, "abc", 0, data(7, "abc"))
	mustSend(t, "in goes", m, 0, "", 0)
	mustSend(t, "in goes", m, 0, "defgh", 0, data(7, "defg"), data(7, "h"))
	mustSend(t, "in goes", m, 0, "ijkl", 2, data(7, "ij"))
	mustSend(t, "with something that waits", m, 0, "m", 3)
	mustSend(t, "with something that waits", m, 0, "", 3)
	mustSend(t, "with something that waits", m, 0, "no", 5)
	mustDo(t, "a 93", m, more(0, 6), list(data(7, "klmn"), data(7, "o")))
	mustWait(t, "a 93", m, 0, 0)
	mustSend(t, "behind a 93", m, 0, "pq", 1, data(7, "p"))
}

// TestSendInSmallWindows: a lot that waits goes a byte at a time, and nothing is lost or told twice.
func TestSendInSmallWindows(t *testing.T) {
	m := after(session(9, 0, full))
	var all, got []byte
	for i := range 3000 {
		if t.Failed() {
			return
		}
		b := []byte{byte(i), byte(i >> 8), byte(i * 7)}
		all = append(all, b...)
		answers, why := m.Send(0, b)
		if len(answers) != 0 || why != api.OK {
			t.Fatalf("P12.2: Send without a window: %x, %d", answers, why)
		}
		answers, _ = m.Do([]byte(more(0, 1)))
		if len(answers) != 1 || len(answers[0]) != 10 {
			t.Fatalf("P12.2: a 93 of 1: %x", answers)
		}
		got = append(got, answers[0][9])
		mustWait(t, "small windows", m, 0, len(all)-len(got))
	}
	answers, _ := m.Do([]byte(more(0, 1<<20)))
	for _, a := range answers {
		got = append(got, a[9:]...)
	}
	if string(got) != string(all) {
		t.Errorf("P12.2: what is sent is not what was handed in")
	}
}

// TestSendInLargePackets: none is larger than theirs may be, nor than MaxData.
func TestSendInLargePackets(t *testing.T) {
	for _, most := range []uint32{1, 100, full - 1, full, full + 1, math.MaxUint32} {
		m := after(session(9, 200000, most))
		all := many("0123456789", 15000)
		size := min(int(most), full)
		var want []string
		for rest := all; rest != ""; {
			n := min(size, len(rest))
			want = append(want, data(9, rest[:n]))
			rest = rest[n:]
		}
		mustSend(t, "large packets", m, 0, all, 0, want...)
	}
}

func TestSendOfNoChannel(t *testing.T) {
	for _, p := range living() {
		for _, ch := range noChannels() {
			mustRefuse(t, p.name, p.make(), ch, api.ErrNone)
		}
	}
	for _, p := range deadOnes() {
		for _, ch := range noChannels() {
			mustRefuse(t, p.name, p.make(), ch, api.ErrDead)
		}
		for ch := range 4 {
			mustRefuse(t, p.name, p.make(), ch, api.ErrDead)
		}
	}
	for ch := 1; ch < 4; ch++ {
		mustRefuse(t, "one channel open", after(open7), ch, api.ErrNone)
	}
}

// TestRefusedSendLeaves: behind refusals all goes on as ahead of them.
func TestRefusedSendLeaves(t *testing.T) {
	m := withWaiting()
	for _, ch := range append(noChannels(), 1, 2, 3) {
		mustRefuse(t, "refused", m, ch, api.ErrNone)
	}
	mustSend(t, "behind refusals", m, 0, "d", 4)
	mustDo(t, "behind refusals", m, more(0, 5), list(data(7, "abcd")))
	mustDo(t, "behind refusals", m, session(8, 1, 1), list(opens(8, 1)))
}

func TestClose(t *testing.T) {
	for _, p := range living()[1:5] {
		m := p.make()
		mustClose(t, p.name, m, 0, 7)
		place{}.mustTell(t, p.name+", closed", m, false)
		for range 2 {
			mustRefuse(t, p.name+", closed", m, 0, api.ErrNone)
		}
	}
	m := after(session(math.MaxUint32, 1, 1), session(8, 1, 1))
	mustClose(t, "each channel", m, 1, 8)
	mustClose(t, "each channel", m, 0, math.MaxUint32)
}

// TestBetweenTheCloses: between our 97 and theirs all is taken, told and answered as ahead of them.
func TestBetweenTheCloses(t *testing.T) {
	m := after(open7)
	mustClose(t, "our 97", m, 0, 7)
	mustDo(t, "between", m, data(0, "early"), nil)
	mustDo(t, "between", m, request(0, "shell", wants, ""), list(failure(7)))
	mustDo(t, "between", m, starts(0, wants), list(success(7)), event(chans.Opened, 0))
	mustDo(t, "between", m, starts(0, wants), list(failure(7)))
	mustDo(t, "between", m, data(0, "late"), nil, came(0, "late"))
	mustDo(t, "between", m, data(0, many("d", full)), list(more(7, full+9)), came(0, many("d", full)))
	mustDo(t, "between", m, more(0, 99), nil)
	mustRefuse(t, "between", m, 0, api.ErrNone)
	mustDo(t, "between", m, session(8, 1, 1), list(opens(8, 1)))
	mustDo(t, "between", m, ending(0), nil, event(chans.Ended, 0))
	mustDo(t, "their 97", m, closing(0), nil, event(chans.Gone, 0))
	mustRefuse(t, "their 97", m, 0, api.ErrNone)
	mustDo(t, "their 97", m, session(9, 1, 1), list(opens(9, 0)))
}

// TestBetweenTheClosesThatAreNotSo: what ends a connection ends it there too.
func TestBetweenTheClosesThatAreNotSo(t *testing.T) {
	p := place{name: "between", make: withClosed}
	for _, payload := range []string{"\x14", "\x5b", "\x5f", data(0, "abc") + "d", more(0, math.MaxUint32), ending(0) + "\x00", closing(0) + "\x00", closing(1), request(0, at65, wants, "")} {
		p.mustEnd(t, payload)
	}
}
