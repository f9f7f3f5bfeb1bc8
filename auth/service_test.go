package auth_test

import (
	"strings"
	"testing"
)

func TestService(t *testing.T) {
	p := place{name: ahead}
	g := p.gate(t)
	mustAnswer(t, ahead, g, asks, accepts)
	mustTell(t, behind, g, place{})
}

// otherServices are as long as may be, and ones that are nearly the right one.
var otherServices = []string{
	"", "s", "ssh-userauth ", " ssh-userauth", "ssh-userauth\x00", "ssh-userauth,ssh-userauth", "ssh-useraut", "sh-userauth",
	"ssh-userauti", "rsh-userauth", "SSH-USERAUTH", "ssh-connection", "password", "none", "\xff\x00",
	strings.Repeat("x", 63), strings.Repeat("x", 64), "ssh-userauth" + strings.Repeat(" ", 52), strings.Repeat("\xff", 64),
}

func TestServiceOfOthers(t *testing.T) {
	for _, name := range otherServices {
		place{name: ahead}.mustEnd(t, service(name), bye7)
	}
}

// wrongServices are 5s that are not so.
func wrongServices() []string {
	wrong := []string{
		service(at65), service("ssh-userauth" + strings.Repeat(" ", 53)), service(strings.Repeat("x", 1000)), service(strings.Repeat("x", 70000)),
		asks + "\x00", asks + "\x05", asks + asks, service("other") + "\x00", service("") + "\x00", service(at64) + "x", service(at65) + "x",
		"\x05\xff\xff\xff\xffssh-userauth", "\x05\x80\x00\x00\x0cssh-userauth", "\x05\x00\x00\x00\x0dssh-userauth", "\x05\x00\x00\x00\x0bssh-userauth",
		"\x05\x0c\x00\x00\x00ssh-userauth", "\x05ssh-userauth",
	}
	for _, right := range []string{asks, service("ssh-connection"), service(at64)} {
		for n := 1; n < len(right); n++ {
			wrong = append(wrong, right[:n])
		}
	}
	return wrong
}

func TestServiceThatIsNotSo(t *testing.T) {
	for _, payload := range wrongServices() {
		place{name: ahead}.mustEnd(t, payload, bye2)
	}
}

// TestSecondService: when a service was asked for, none is any more, a right one nor another one.
func TestSecondService(t *testing.T) {
	for _, p := range append(outside(), inside()...) {
		p.mustEnd(t, asks, bye2)
		for _, name := range otherServices {
			p.mustEnd(t, service(name), bye2)
		}
		for _, payload := range wrongServices() {
			p.mustEnd(t, payload, bye2)
		}
	}
}
