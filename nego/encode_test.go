package nego_test

import (
	"encoding/hex"
	"math/rand"
	"strings"
	"testing"

	"strongroom/api"
	"strongroom/nego"
)

// mustEncode holds Encode of right lists against what they are by hand.
func mustEncode(t *testing.T, l nego.Lists) {
	t.Helper()
	if b, why := nego.Encode(l); why != api.OK || string(b) != string(written(l, 0)) {
		t.Errorf("P9.2: Encode of %.200s: %v, %x", show(l), why, b)
	}
}

func mustNotEncode(t *testing.T, l nego.Lists, want api.Errno) {
	t.Helper()
	if b, why := nego.Encode(l); why != want || len(b) != 0 {
		t.Errorf("P9.2: Encode of %.200s: %v, %x; want %v", show(l), why, b, want)
	}
}

// TestEncodeBytes: the bytes stand here as they are.
func TestEncodeBytes(t *testing.T) {
	const cookieHex = "30313233343536373839616263646566"
	for _, c := range []struct {
		lists nego.Lists
		want  string
	}{
		{fields(someCookie, false), "14" + cookieHex + strings.Repeat("00000000", 10) + "00" + "00000000"},
		{fields(someCookie, true), "14" + cookieHex + strings.Repeat("00000000", 10) + "01" + "00000000"},
		{
			fields(someCookie, true, "zlib none", "a", "", "b c d", "", "", "", "", "", "~"),
			"14" + cookieHex + "000000097a6c69622c6e6f6e65" + "0000000161" + "00000000" + "00000005622c632c64" + strings.Repeat("00000000", 5) + "000000017e" + "01" + "00000000",
		},
		{
			nego.Ours([]byte(someCookie)),
			"14" + cookieHex + "00000011" + hex.EncodeToString([]byte("curve25519-sha256")) + "0000000e" + hex.EncodeToString([]byte("strongroom-mac")) +
				strings.Repeat("00000011"+hex.EncodeToString([]byte("chacha20-poly1305")), 2) + strings.Repeat("000000046e6f6e65", 4) + "0000000000000000" + "00" + "00000000",
		},
	} {
		if b, why := nego.Encode(c.lists); why != api.OK || hex.EncodeToString(b) != c.want {
			t.Errorf("P9.2: Encode of %s: %v, %x, want %s", show(c.lists), why, b, c.want)
		}
	}
}

func TestEncodeByHand(t *testing.T) {
	for _, l := range severalLists() {
		mustEncode(t, l)
	}
	r := rand.New(rand.NewSource(2))
	for range 500 {
		mustEncode(t, someLists(r))
	}
}

func TestEncodeCookie(t *testing.T) {
	for size := range 40 {
		l := openSSH()
		l.Cookie = make([]byte, size)
		if size == 16 {
			mustEncode(t, l)
			continue
		}
		mustNotEncode(t, l, api.ErrArg)
		// The cookie is asked first.
		l.Names[0] = []string{"a,b"}
		mustNotEncode(t, l, api.ErrArg)
		l.Names[0] = append(most(), "x")
		mustNotEncode(t, l, api.ErrArg)
	}
	mustNotEncode(t, nego.Lists{}, api.ErrArg)
	mustNotEncode(t, nego.Lists{Cookie: make([]byte, 0, 16)}, api.ErrArg)
	mustNotEncode(t, nego.Lists{Cookie: make([]byte, 1<<16)}, api.ErrArg)
}

// TestEncodeWrongNames: a name that is none is refused in each list and at each place in it.
func TestEncodeWrongNames(t *testing.T) {
	for _, wrong := range []string{"", ",", "a,b", ",a", "a,", " ", "a b", " a", "a ", "\x00", "a\x1f", "\x7f", "a\x80b", "\xff", "\r\n", "\u00e9", "\u0161", "\U0001f441", strings.Repeat("x", 65), strings.Repeat("x", 1000), strings.Repeat("x", 1001)} {
		for i := range 10 {
			for _, names := range [][]string{{wrong}, {wrong, "a"}, {"a", wrong}, {"a", wrong, "b"}, {wrong, wrong}} {
				l := openSSH()
				l.Names[i] = names
				mustNotEncode(t, l, api.ErrForm)
			}
		}
	}
	// One empty name would look like no names at all, and two like the name that a comma is not.
	l := fields(someCookie, false)
	l.Names[0] = []string{""}
	mustNotEncode(t, l, api.ErrForm)
	l.Names[0] = []string{"", ""}
	mustNotEncode(t, l, api.ErrForm)
}

// TestEncodeNameOfEachByte: a name's bytes are from 33 to 126, and no comma.
func TestEncodeNameOfEachByte(t *testing.T) {
	for n := range 256 {
		for _, around := range []string{"?", "?b", "a?", "a?b", "?" + strings.Repeat("x", 63), strings.Repeat("x", 63) + "?"} {
			l := fields(someCookie, true)
			l.Names[n%10] = []string{"first", strings.Replace(around, "?", string([]byte{byte(n)}), 1)}
			if n >= 33 && n <= 126 && n != ',' {
				mustEncode(t, l)
			} else {
				mustNotEncode(t, l, api.ErrForm)
			}
		}
	}
}

func TestEncodeNameOfEachLength(t *testing.T) {
	for size := range 200 {
		l := fields(someCookie, false)
		l.Names[size%10] = []string{strings.Repeat("n", size)}
		if size >= 1 && size <= 64 {
			mustEncode(t, l)
		} else {
			mustNotEncode(t, l, api.ErrForm)
		}
	}
}

// TestEncodeLongLists: commas count, and each list counts by itself.
func TestEncodeLongLists(t *testing.T) {
	at64 := strings.Repeat("n", 64)
	lists := []struct {
		names []string
		right bool
	}{
		{most(), true},
		{append(most(), "x"), false},
		{append(most()[:249], "defgh"), false},
		{append(most()[:249], "def"), true},
		{strings.Fields(strings.Repeat("a ", 500)), true},
		{append(strings.Fields(strings.Repeat("a ", 499)), "bb"), true},
		{append(strings.Fields(strings.Repeat("a ", 499)), "bbb"), false},
		{strings.Fields(strings.Repeat("a ", 501)), false},
		{append(strings.Fields(strings.Repeat(at64+" ", 15)), strings.Repeat("n", 25)), true},
		{append(strings.Fields(strings.Repeat(at64+" ", 15)), strings.Repeat("n", 26)), false},
		{strings.Fields(strings.Repeat("a ", 100000)), false},
	}
	for _, c := range lists {
		joined := len(strings.Join(c.names, ","))
		if c.right != (joined <= api.MaxNames) {
			t.Fatalf("a list of %d bytes is taken wrongly here", joined)
		}
		for i := range 10 {
			l := openSSH()
			l.Names[i] = c.names
			if c.right {
				mustEncode(t, l)
			} else {
				mustNotEncode(t, l, api.ErrForm)
			}
		}
	}
	all := fields(someCookie, false)
	for i := range all.Names {
		all.Names[i] = most()
	}
	mustEncode(t, all)
}

// TestEncodeFollows: the byte ahead of the last four tells it, and nothing else does.
func TestEncodeFollows(t *testing.T) {
	for _, l := range severalLists() {
		l.Follows = false
		without, _ := nego.Encode(l)
		l.Follows = true
		with, _ := nego.Encode(l)
		at := len(without) - 5
		if len(with) != len(without) || without[at] != 0 || with[at] != 1 {
			t.Fatalf("P9.2: Follows: %x, %x", without, with)
		}
		with[at] = 0
		if string(with) != string(without) {
			t.Errorf("P9.2: Follows changes more than its byte: %x, %x", without, with)
		}
	}
}
