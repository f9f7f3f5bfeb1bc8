package auth_test

import (
	"fmt"
	"strings"
	"testing"

	"strongroom/api"
	"strongroom/auth"
)

// Payloads, written by hand.
const (
	asks     = "\x05\x00\x00\x00\x0cssh-userauth"
	accepts  = "\x06\x00\x00\x00\x0cssh-userauth"
	refuses  = "\x33\x00\x00\x00\x08password\x00"
	letsIn   = "\x34"
	bye2     = "\x01\x00\x00\x00\x02\x00\x00\x00\x00\x00\x00\x00\x00"
	bye7     = "\x01\x00\x00\x00\x07\x00\x00\x00\x00\x00\x00\x00\x00"
	bye14    = "\x01\x00\x00\x00\x0e\x00\x00\x00\x00\x00\x00\x00\x00"
	annComes = "\x32\x00\x00\x00\x03ann\x00\x00\x00\x0essh-connection\x00\x00\x00\x08password\x00\x00\x00\x00\x03one"
)

// Texts as long as may be, and one byte longer.
var (
	at64 = strings.Repeat("x", 64)
	at65 = strings.Repeat("x", 65)
)

// text is the Text of s.
func text(s string) string {
	n := len(s)
	return string([]byte{byte(n >> 24), byte(n >> 16), byte(n >> 8), byte(n)}) + s
}

func service(name string) string { return "\x05" + text(name) }

// login is a 50: its three Texts, and the rest.
func login(name, service, method, rest string) string {
	return "\x32" + text(name) + text(service) + text(method) + rest
}

func password(name, pass string) string {
	return login(name, "ssh-connection", "password", "\x00"+text(pass))
}

// people are the users of most Gates: one has no pass, one has Texts of 64 bytes, two have the same name, and one has no name.
func people() []api.User {
	return []api.User{
		{Name: "ann", Pass: "one"},
		{Name: "bob", Pass: ""},
		{Name: at64, Pass: at64},
		{Name: "two", Pass: "first"},
		{Name: "two", Pass: "second"},
		{Name: "", Pass: "nobody"},
		{Name: "a\x00\xff", Pass: "\xfe\x00,\n"},
		{Name: at65, Pass: "long"},
		{Name: "long", Pass: at65},
	}
}

// place is how far a Gate has come by payloads, and what it tells there.
type place struct {
	name     string
	payloads []string
	user     string
	in, dead bool
}

const (
	ahead  = "ahead of the service"
	behind = "behind the service"
)

// outside are the places where users may be let in.
func outside() []place {
	no := password("ann", "no")
	return []place{
		{name: behind, payloads: []string{asks}},
		{name: "behind a wrong try", payloads: []string{asks, no}},
		{name: "ahead of the last try", payloads: []string{asks, no, no, no, no}},
	}
}

// inside are the places with a user in.
func inside() []place {
	no := password("ann", "no")
	return []place{
		{name: "with a user in", payloads: []string{asks, annComes}, user: "ann", in: true},
		{name: "with a user in by the last try", payloads: []string{asks, no, no, no, no, annComes}, user: "ann", in: true},
		{name: "with a user in who has no name", payloads: []string{asks, password("", "nobody")}, user: "", in: true},
	}
}

func living() []place {
	return append(append([]place{{name: ahead}}, outside()...), inside()...)
}

// deadOnes are the places where a Gate is dead, by each of the ways.
func deadOnes() []place {
	no := password("ann", "no")
	return []place{
		{name: "dead by a 1", payloads: []string{"\x01"}, dead: true},
		{name: "dead by another kind", payloads: []string{"\x14"}, dead: true},
		{name: "dead by another service", payloads: []string{service("ssh-other")}, dead: true},
		{name: "dead by a second 5", payloads: []string{asks, asks}, dead: true},
		{name: "dead by a 50 that is cut off", payloads: []string{asks, "\x32"}, dead: true},
		{name: "dead by another second Text", payloads: []string{asks, login("ann", "ssh-other", "none", "")}, dead: true},
		{name: "dead by tries", payloads: []string{asks, no, no, no, no, no}, dead: true},
		{name: "dead by a 1, with a user in", payloads: []string{asks, annComes, "\x01"}, user: "ann", in: true, dead: true},
		{name: "dead by a 5, with a user in", payloads: []string{asks, annComes, asks}, user: "ann", in: true, dead: true},
		{name: "dead by a 50 that is cut off, with a user in", payloads: []string{asks, annComes, annComes[:30]}, user: "ann", in: true, dead: true},
	}
}

// gate is a Gate of people at that place.
func (p place) gate(t *testing.T) *auth.Gate {
	t.Helper()
	g := auth.New(people())
	for _, payload := range p.payloads {
		g.Do([]byte(payload))
	}
	mustTell(t, p.name, g, p)
	return g
}

// mustTell looks at what User and Dead tell.
func mustTell(t *testing.T, what string, g *auth.Gate, want place) {
	t.Helper()
	if name, in := g.User(); name != want.user || in != want.in {
		t.Errorf("P11.2: %s: User tells %q, %v; want %q, %v", what, name, in, want.user, want.in)
	}
	if g.Dead() != want.dead {
		t.Errorf("P11.1: %s: Dead tells %v", what, g.Dead())
	}
}

// mustAnswer looks at what Do answers.
func mustAnswer(t *testing.T, what string, g *auth.Gate, payload string, want ...string) {
	t.Helper()
	got := g.Do([]byte(payload))
	if fmt.Sprintf("%x", got) != fmt.Sprintf("%x", want) {
		t.Errorf("P11.1: %s: Do(%x) answers %x; want %x", what, payload, got, want)
	}
}

// mustPass: at that place nothing is answered, and nothing is told otherwise.
func (p place) mustPass(t *testing.T, payload string) {
	t.Helper()
	g := p.gate(t)
	mustAnswer(t, p.name, g, payload)
	mustTell(t, fmt.Sprintf("%s, behind %x", p.name, payload), g, p)
}

// mustEnd: at that place that Bye alone is answered, and the Gate is dead from then on, whatever comes.
func (p place) mustEnd(t *testing.T, payload, bye string) {
	t.Helper()
	g := p.gate(t)
	mustAnswer(t, p.name, g, payload, bye)
	p.mustStayDead(t, g, fmt.Sprintf("%s, behind %x", p.name, payload))
}

// mustStayDead: behind dead nothing is answered, and User goes on telling.
func (p place) mustStayDead(t *testing.T, g *auth.Gate, what string) {
	t.Helper()
	p.dead = true
	mustTell(t, what, g, p)
	for _, later := range []string{asks, annComes, "\x01", "\x02", "\x14", ""} {
		mustAnswer(t, what+", dead", g, later)
	}
	mustTell(t, what+", dead", g, p)
}

// mustLetIn: at that place this user comes in.
func (p place) mustLetIn(t *testing.T, payload, user string) {
	t.Helper()
	g := p.gate(t)
	mustAnswer(t, p.name, g, payload, letsIn)
	mustTell(t, fmt.Sprintf("%s, behind %x", p.name, payload), g, place{user: user, in: true})
}

// mustCount: at that place the payload is one more wrong try, the last one too.
func (p place) mustCount(t *testing.T, payload string) {
	t.Helper()
	g := p.gate(t)
	tried := len(p.payloads) - 1
	for range 4 - tried {
		mustAnswer(t, p.name, g, payload, refuses)
		mustTell(t, fmt.Sprintf("%s, behind %x", p.name, payload), g, place{})
	}
	mustAnswer(t, p.name+", the last try", g, payload, bye14)
	p.mustStayDead(t, g, fmt.Sprintf("%s, the last try %x", p.name, payload))
}
