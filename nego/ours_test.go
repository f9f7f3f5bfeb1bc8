package nego_test

import (
	"slices"
	"strings"
	"testing"

	"strongroom/api"
	"strongroom/nego"
)

// TestOurs: the ten lists by name.
func TestOurs(t *testing.T) {
	for _, cookie := range []string{"", "c", someCookie[:15], someCookie, someCookie + "g", strings.Repeat("\x00", 16), strings.Repeat("x", 1<<16)} {
		l := nego.Ours([]byte(cookie))
		if string(l.Cookie) != cookie || l.Follows {
			t.Errorf("P9.2: Ours of a cookie of %d bytes: %.40x, %t", len(cookie), l.Cookie, l.Follows)
		}
		for i, want := range [10][]string{
			{"curve25519-sha256"},
			{"strongroom-mac"},
			{"chacha20-poly1305"}, {"chacha20-poly1305"},
			{"none"}, {"none"}, {"none"}, {"none"},
			{}, {},
		} {
			if !slices.Equal(l.Names[i], want) {
				t.Errorf("P9.2: Ours, list %d: %q, want %q", i, l.Names[i], want)
			}
		}
	}
	if l := nego.Ours(nil); len(l.Cookie) != 0 || l.Follows || show(l) != show(nego.Ours([]byte{})) {
		t.Errorf("P9.2: Ours(nil): %s", show(l))
	}
}

// TestOursIsEncoded: they are right lists, if the cookie is.
func TestOursIsEncoded(t *testing.T) {
	for size := range 33 {
		l := nego.Ours(make([]byte, size))
		if size == 16 {
			mustEncode(t, l)
		} else {
			mustNotEncode(t, l, api.ErrArg)
		}
	}
}
