package chans

import (
	"testing"

	"strongroom/auth"
	"strongroom/window"
	"strongroom/wire"
)

func payloadOf(ch uint32, s string) []byte {
	w := wire.NewWriter()
	w.Byte(94)
	w.U32(ch)
	w.Text(s)
	return w.Done()
}

func openOne() *Mux {
	m := New()
	w := wire.NewWriter()
	w.Byte(90)
	w.Text("session")
	w.U32(7)
	w.U32(10)
	w.U32(4)
	m.Do(w.Done())
	return m
}

// TestBelowOurWindow: as our window is full again ahead of each 94 that it couldn't let by, it is made narrow by hand here.
func TestBelowOurWindow(t *testing.T) {
	for _, left := range []int{0, 1, 5} {
		m := openOne()
		m.channels[0].fromThem = window.Of(int64(left), 1)
		answers, events := m.Do(payloadOf(0, "abcdef"[:left+1]))
		if len(answers) != 1 || string(answers[0]) != string(auth.Bye(2)) || len(events) != 0 || !m.Dead() {
			t.Errorf("P12.1: one byte more than the %d of our window: %x, %v, %v", left, answers, events, m.Dead())
		}
		m = openOne()
		m.channels[0].fromThem = window.Of(int64(left), 1)
		answers, _ = m.Do(payloadOf(0, "abcdef"[:left]))
		if len(answers) != 1 || answers[0][0] != 93 || m.Dead() {
			t.Errorf("P12.1: just the %d bytes of our window: %x, %v", left, answers, m.Dead())
		}
	}
}
