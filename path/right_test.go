package path_test

import (
	"fmt"
	"math/rand"
	"strings"
	"testing"

	"strongroom/api"
	"strongroom/path"
)

func mustBeRight(t *testing.T, name string, want bool) {
	t.Helper()
	if got := path.Right(name); got != want {
		t.Errorf("P13.1: Right(%.50q) of %d bytes: %v", name, len(name), got)
	}
}

func TestRight(t *testing.T) {
	for _, name := range []string{"a", "Z", "0", " ", "a b", "-", "~", "*", `\`, `a\b`, "C:", "%2f", "%00", "a,b", "\n", "\t", "\x7f", "h0", "caf\u00e9", "\u2215", "\u2044", "\u2025", "\uff0e\uff0e", "\xff\x01", "\xc0\xaf", "\xc0\x80", "\xe2\x80"} {
		mustBeRight(t, name, true)
	}
	for _, name := range []string{"", "\x00", "/", "a/b", "/a", "a/", "//", "a\x00b", "\x00a", "a\x00", "\x00\x00", "./", "/.", "../", "/..", "a/../b", ".\x00", "\x00.", "..\x00", "\x00.."} {
		mustBeRight(t, name, false)
	}
}

func TestRightOfDots(t *testing.T) {
	mustBeRight(t, ".", false)
	mustBeRight(t, "..", false)
	for n := 3; n <= api.MaxName; n++ {
		mustBeRight(t, strings.Repeat(".", n), true)
	}
	mustBeRight(t, strings.Repeat(".", api.MaxName+1), false)
	for _, name := range []string{".a", "a.", ".a.", "..a", "a..", "..a..", "a.b", "a..b", "...a", "a...", ". ", " .", ".. ", " ..", ". .", ".-", "-."} {
		mustBeRight(t, name, true)
	}
}

func TestRightOfEachLength(t *testing.T) {
	for n := range 3*api.MaxName + 1 {
		mustBeRight(t, strings.Repeat("n", n), n >= 1 && n <= 30)
	}
	for _, n := range []int{200, 255, 256, 257, 286, 1 << 16, 1 << 20} {
		mustBeRight(t, strings.Repeat("n", n), false)
	}
}

// TestRightCountsBytes: of texts whose runes have several bytes, it is the bytes that may be 30.
func TestRightCountsBytes(t *testing.T) {
	for _, letter := range []string{"\u00e9", "\u20ac", "\U0001f600", "\xff", "\xe2\x82"} {
		for n := 1; n <= 31; n++ {
			mustBeRight(t, strings.Repeat(letter, n), n*len(letter) <= 30)
		}
	}
}

func TestRightOfEachByteAlone(t *testing.T) {
	for b := range 256 {
		mustBeRight(t, string([]byte{byte(b)}), b != 0 && b != '/' && b != '.')
	}
}

// TestRightOfEachByteAmongOthers: at each place of names of several lengths.
func TestRightOfEachByteAmongOthers(t *testing.T) {
	for b := range 256 {
		for _, around := range []string{"ab", "abc", "...", "\x80\xff\x80", strings.Repeat("n", 29), strings.Repeat("n", 30), strings.Repeat(".", 30)} {
			for at := range around {
				name := []byte(around)
				name[at] = byte(b)
				mustBeRight(t, string(name), b != 0 && b != '/')
			}
		}
		for _, name := range []string{".%s", "%s.", "..%s", "%s..", ".%s.", "%[1]s%[1]s%[1]s"} {
			mustBeRight(t, fmt.Sprintf(name, string([]byte{byte(b)})), b != 0 && b != '/' && !(b == '.' && len(name) == 3))
		}
	}
}

// right is Right another way.
func right(name string) bool {
	switch {
	case strings.ContainsAny(name, "\x00/"):
		return false
	case len(strings.Trim(name, ".")) == 0:
		return len(name) > 2 && len(name) <= 30
	}
	return len(name) <= 30
}

func TestRightOfAllShortNames(t *testing.T) {
	eachText("\x00/.a", 6, func(name string) { mustBeRight(t, name, right(name)) })
}

func TestRightOfManyNames(t *testing.T) {
	r := rand.New(rand.NewSource(1))
	for range 50000 {
		name := make([]byte, r.Intn(33))
		for i := range name {
			name[i] = byte(1 + r.Intn(255))
			if r.Intn(2) == 0 {
				name[i] = "..a\xff"[r.Intn(4)]
			}
		}
		if len(name) > 0 && r.Intn(4) == 0 {
			name[r.Intn(len(name))] = byte(r.Intn(2)) * '/'
		}
		mustBeRight(t, string(name), right(string(name)))
	}
}
