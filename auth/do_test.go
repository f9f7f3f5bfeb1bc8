package auth_test

import (
	"fmt"
	"math"
	"strings"
	"testing"

	"strongroom/auth"
)

func TestBye(t *testing.T) {
	for _, c := range []struct {
		reason uint32
		want   string
	}{
		{0, "01000000000000000000000000"},
		{1, "01000000010000000000000000"},
		{2, "01000000020000000000000000"},
		{7, "01000000070000000000000000"},
		{14, "010000000e0000000000000000"},
		{0x01020304, "01010203040000000000000000"},
		{math.MaxInt32, "017fffffff0000000000000000"},
		{math.MaxUint32, "01ffffffff0000000000000000"},
	} {
		if got := fmt.Sprintf("%x", auth.Bye(c.reason)); got != c.want {
			t.Errorf("P11.1: Bye(%d): %s; want %s", c.reason, got, c.want)
		}
	}
}

// TestRun is the chapter's.
func TestRun(t *testing.T) {
	g := auth.New(people())
	mustTell(t, "a new Gate", g, place{})
	mustAnswer(t, "the run", g, asks, accepts)
	mustTell(t, "the run, behind the service", g, place{})
	mustAnswer(t, "the run", g, annComes, letsIn)
	mustTell(t, "the run, behind the pass", g, place{user: "ann", in: true})
}

// TestExamples are the chapter's.
func TestExamples(t *testing.T) {
	place{name: ahead}.mustEnd(t, annComes, bye2)
	place{name: behind, payloads: []string{asks}}.mustCount(t, login("ann", "ssh-connection", "none", ""))
}

// tails are whatever may stand behind a first byte.
func tails() []string {
	return []string{"", "\x00", "\x01", "\xff", "\x32", asks, annComes, asks[1:], annComes[1:], asks[1:] + "\x00", "\xff\xff\xff\xff", text(at65), strings.Repeat("\x05", 40000)}
}

func TestDoOfNothing(t *testing.T) {
	for _, p := range append(living(), deadOnes()...) {
		p.mustPass(t, "")
		g := p.gate(t)
		if got := g.Do(nil); len(got) != 0 {
			t.Errorf("P11.1: %s: Do(nil) answers %x", p.name, got)
		}
		mustTell(t, p.name+", behind nil", g, p)
	}
}

func TestDoOfPassedKinds(t *testing.T) {
	for _, p := range append(living(), deadOnes()...) {
		for _, kind := range []string{"\x02", "\x03", "\x04"} {
			for _, tail := range tails() {
				p.mustPass(t, kind+tail)
			}
		}
	}
}

// TestPassedKindsAsk: what stands behind a 2, 3 or 4 is not done, and what is asked for behind it goes on as ahead of it.
func TestPassedKindsAsk(t *testing.T) {
	for _, passed := range []string{"", "\x02", "\x03" + asks, "\x04" + annComes} {
		g := auth.New(people())
		mustAnswer(t, ahead, g, passed)
		mustAnswer(t, ahead, g, asks, accepts)
		mustAnswer(t, behind, g, passed)
		mustAnswer(t, behind, g, password("ann", "no"), refuses)
		mustAnswer(t, "behind a wrong try", g, passed)
		mustAnswer(t, "behind a wrong try", g, annComes, letsIn)
		mustAnswer(t, "with a user in", g, passed)
		mustAnswer(t, "with a user in", g, annComes)
		mustTell(t, "with a user in", g, place{user: "ann", in: true})
	}
}

func TestDoOfOne(t *testing.T) {
	for _, p := range living() {
		for _, tail := range append(tails(), bye2[1:], bye14[1:]) {
			g := p.gate(t)
			mustAnswer(t, p.name, g, "\x01"+tail)
			p.mustStayDead(t, g, p.name+", behind a 1")
		}
	}
}

func TestDoOfOtherKinds(t *testing.T) {
	for _, p := range living() {
		for kind := range 256 {
			switch kind {
			case 1, 2, 3, 4, 5, 50:
				continue
			}
			for _, tail := range tails() {
				p.mustEnd(t, string([]byte{byte(kind)})+tail, bye2)
			}
		}
	}
}

// TestDoOfDead: every first byte, with whatever stands behind it.
func TestDoOfDead(t *testing.T) {
	for _, p := range deadOnes() {
		for kind := range 256 {
			for _, tail := range tails() {
				p.mustPass(t, string([]byte{byte(kind)})+tail)
			}
		}
		g := p.gate(t)
		p.mustStayDead(t, g, p.name)
	}
}
