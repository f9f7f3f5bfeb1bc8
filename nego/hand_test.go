package nego_test

import (
	"encoding/binary"
	"fmt"
	"math/rand"
	"regexp"
	"strings"
	"testing"

	"strongroom/api"
	"strongroom/nego"
)

const someCookie = "0123456789abcdef"

var (
	rightVersions = regexp.MustCompile(`^SSH-2\.0-[ -~]{1,245}$`)
	// From 33 to 126, without the comma.
	rightNames = regexp.MustCompile(`^[!-+\--~]{1,64}(,[!-+\--~]{1,64})*$`)
)

// show tells all of l, nil and empty lists alike.
func show(l nego.Lists) string { return fmt.Sprintf("%x %q %t", l.Cookie, l.Names, l.Follows) }

// nothing is what stands beside a refusal.
var nothing = show(nego.Lists{})

// text is the Text of s.
func text(s string) string {
	return string(binary.BigEndian.AppendUint32(nil, uint32(len(s)))) + s
}

// written is the payload of l with another last number, put together without wire; what is right is not asked.
func written(l nego.Lists, last uint32) []byte {
	b := append([]byte{20}, l.Cookie...)
	for _, names := range l.Names {
		b = append(b, text(strings.Join(names, ","))...)
	}
	follows := byte(0)
	if l.Follows {
		follows = 1
	}
	return binary.BigEndian.AppendUint32(append(b, follows), last)
}

// read is the Lists of a payload, taken apart without wire, and whether it is one.
func read(b []byte) (nego.Lists, bool) {
	var l nego.Lists
	if len(b) < 17 || b[0] != 20 {
		return nego.Lists{}, false
	}
	l.Cookie, b = b[1:17], b[17:]
	for i := range l.Names {
		if len(b) < 4 {
			return nego.Lists{}, false
		}
		size := int(binary.BigEndian.Uint32(b))
		b = b[4:]
		if size > 1000 || size > len(b) {
			return nego.Lists{}, false
		}
		if size > 0 && !rightNames.Match(b[:size]) {
			return nego.Lists{}, false
		}
		if size > 0 {
			l.Names[i] = strings.Split(string(b[:size]), ",")
		}
		b = b[size:]
	}
	if len(b) != 5 {
		return nego.Lists{}, false
	}
	l.Follows = b[0] != 0
	return l, true
}

// fields are lists of names, parted by blanks, one a text.
func fields(cookie string, follows bool, lists ...string) nego.Lists {
	l := nego.Lists{Cookie: []byte(cookie), Follows: follows}
	for i, list := range lists {
		l.Names[i] = strings.Fields(list)
	}
	return l
}

// openSSH are lists as another program tells them.
func openSSH() nego.Lists {
	macs := "umac-64-etm@openssh.com umac-128-etm@openssh.com hmac-sha2-256-etm@openssh.com hmac-sha2-512-etm@openssh.com hmac-sha2-256 hmac-sha2-512"
	ciphers := "chacha20-poly1305@openssh.com aes128-ctr aes192-ctr aes256-ctr aes128-gcm@openssh.com aes256-gcm@openssh.com"
	return fields("\x00\x01\x7f\x80\xff\x14,\r\n\x00\x00\x00\x10abc", true,
		"curve25519-sha256 curve25519-sha256@libssh.org ecdh-sha2-nistp256 diffie-hellman-group14-sha256 ext-info-c kex-strict-c-v00@openssh.com",
		"ssh-ed25519 ecdsa-sha2-nistp256 rsa-sha2-512", ciphers, ciphers, macs, macs, "none zlib@openssh.com", "zlib none", "en-GB en", "de")
}

// most is a list of 250 names that have, with commas, MaxNames bytes.
func most() []string { return strings.Split(strings.Repeat("abc,", 249)+"defg", ",") }

// severalLists are right ones of many shapes.
func severalLists() []nego.Lists {
	all := []nego.Lists{
		fields(someCookie, false), fields(someCookie, true),
		nego.Ours([]byte(someCookie)), openSSH(),
		fields(strings.Repeat("\x00", 16), false, "a"),
		fields(strings.Repeat("\xff", 16), true, "", "", "", "", "", "", "", "", "", "z"),
	}
	for i := range 10 {
		long := fields(someCookie, i%2 == 0)
		long.Names[i] = most()
		one := fields(someCookie, i%2 == 1)
		one.Names[i] = []string{strings.Repeat("~", 64), "!", "!"}
		all = append(all, long, one)
	}
	whole := fields(someCookie, true)
	for i := range whole.Names {
		whole.Names[i] = most()
	}
	return append(all, whole)
}

func someName(r *rand.Rand) string {
	b := make([]byte, 1+r.Intn(64))
	for i := range b {
		for b[i] = ','; b[i] == ','; {
			b[i] = byte(33 + r.Intn(94))
		}
	}
	return string(b)
}

func someLists(r *rand.Rand) nego.Lists {
	l := nego.Lists{Cookie: make([]byte, 16), Follows: r.Intn(2) == 0}
	r.Read(l.Cookie)
	for i := range l.Names {
		for range r.Intn(5) {
			l.Names[i] = append(l.Names[i], someName(r))
		}
	}
	return l
}

// mustDecode holds Decode against what the bytes are by hand.
func mustDecode(t *testing.T, what string, b []byte) {
	t.Helper()
	wantLists, right := read(b)
	want := api.OK
	if !right {
		want = api.ErrForm
	}
	if l, why := nego.Decode(b); why != want || show(l) != show(wantLists) {
		t.Errorf("P9.2: Decode of %s: %v, %.200s; want %v, %.200s", what, why, show(l), want, show(wantLists))
	}
}
