package nego_test

import (
	"bytes"
	"math/rand"
	"strings"
	"testing"

	"strongroom/api"
	"strongroom/nego"
)

// longest is a version of MaxLine bytes.
var longest = "SSH-2.0-" + strings.Repeat("x", 245)

// mustLine asks Line, and Version of the line, of a text that is a version or is none.
func mustLine(t *testing.T, s string, right bool) {
	t.Helper()
	line, want := s+"\r\n", api.OK
	if !right {
		line, want = "", api.ErrForm
	}
	if b, why := nego.Line(s); why != want || string(b) != line {
		t.Errorf("P9.1: Line(%q): %q, %v; want %v", s, b, why, want)
	}
}

// mustVersion asks Version of b, and checks that nothing stands beside a refusal.
func mustVersion(t *testing.T, b, version string, end int, want api.Errno) {
	t.Helper()
	if s, n, why := nego.Version([]byte(b)); s != version || n != end || why != want {
		t.Errorf("P9.1: Version(%.300q), %d bytes: %q, %d, %v; want %q, %d, %v", b, len(b), s, n, why, version, end, want)
	}
}

func TestLine(t *testing.T) {
	for _, s := range []string{"SSH-2.0-x", "SSH-2.0-strongroom", "SSH-2.0-strongclient", "SSH-2.0-OpenSSH_9.6p1 Debian-4", "SSH-2.0- ", "SSH-2.0--", "SSH-2.0-~", "SSH-2.0-SSH-2.0-", longest[:252], longest} {
		mustLine(t, s, true)
		mustVersion(t, s+"\r\n", s, len(s)+2, api.OK)
	}
	for _, s := range []string{"", "S", "x", "SSH-2.0", "SSH-2.0-", longest + "x", longest + longest, "SSH-2.0-" + strings.Repeat("x", 1<<20)} {
		mustLine(t, s, false)
	}
}

// TestLineOfOtherBeginnings: the beginning is held against byte by byte, and at the beginning alone.
func TestLineOfOtherBeginnings(t *testing.T) {
	for _, s := range []string{"SSH-1.99-x", "SSH-1.5-x", "SSH-2.1-x", "SSH-2.0x", "SSH-2-x", "SSH2.0-x", "SSH-2.00-x", "SSH--2.0-x", "ssh-2.0-x", "Ssh-2.0-x", " SSH-2.0-x", "xSSH-2.0-x", "SSH-2.0 -x", "-SSH-2.0", "x-SSH-2.0-", "strongroom", strings.Repeat(" ", 20), "\ufeffSSH-2.0-x"} {
		mustLine(t, s, false)
		mustVersion(t, s+"\r\n", "", 0, api.ErrForm)
	}
	for at := range "SSH-2.0-" {
		for turn := 1; turn < 256; turn++ {
			b := []byte("SSH-2.0-xyz")
			b[at] ^= byte(turn)
			mustLine(t, string(b), false)
		}
		mustLine(t, "SSH-2.0-"[:at]+"SSH-2.0-"[at+1:]+"xyz", false)
		mustLine(t, "SSH-2.0-"[:at], false)
		mustLine(t, "SSH-2.0-"[at+1:]+"xyz", false)
	}
}

// TestLineOfEachByte: a version's bytes are from 32 to 126, at each place.
func TestLineOfEachByte(t *testing.T) {
	for _, size := range []int{1, 2, 3, 5, 245} {
		for n := range 256 {
			for at := 0; at < size; at += 1 + size/5 {
				b := []byte("SSH-2.0-" + strings.Repeat("x", size))
				b[8+at] = byte(n)
				right := n >= 32 && n <= 126
				mustLine(t, string(b), right)
				if right {
					mustVersion(t, string(b)+"\r\n", string(b), len(b)+2, api.OK)
				} else {
					mustVersion(t, string(b)+"\r\n", "", 0, api.ErrForm)
				}
			}
		}
	}
	// Runes are no more than their bytes: none above 126 may be.
	for _, s := range []string{"SSH-2.0-\u00e9", "SSH-2.0-a\u0120", "SSH-2.0-\u4e20", "SSH-2.0-\U0001f420", "SSH-2.0-\xff", "SSH-2.0-x\x80"} {
		mustLine(t, s, false)
		mustVersion(t, s+"\r\n", "", 0, api.ErrForm)
	}
}

// TestVersionExamples: the first of the chapter's examples, and others whose answers stand here as they are.
func TestVersionExamples(t *testing.T) {
	mustVersion(t, "SSH-2.0-x\n", "", 0, api.ErrEnd)
	mustVersion(t, "", "", 0, api.ErrEnd)
	if s, n, why := nego.Version(nil); s != "" || n != 0 || why != api.ErrEnd {
		t.Errorf("P9.1: Version(nil): %q, %d, %v", s, n, why)
	}
	mustVersion(t, "SSH-2.0-x", "", 0, api.ErrEnd)
	mustVersion(t, "SSH-2.0-x\r", "", 0, api.ErrEnd)
	mustVersion(t, "SSH-2.0-x\n\r", "", 0, api.ErrEnd)
	mustVersion(t, "SSH-2.0-x\r\n", "SSH-2.0-x", 11, api.OK)
	mustVersion(t, "\r\n", "", 0, api.ErrForm)
	mustVersion(t, "\r\nSSH-2.0-x\r\n", "", 0, api.ErrForm)
	mustVersion(t, "welcome\r\nSSH-2.0-x\r\n", "", 0, api.ErrForm)
	mustVersion(t, "SSH-2.0-\r\n", "", 0, api.ErrForm)
	mustVersion(t, "SSH-2.0-\r\nx\r\n", "", 0, api.ErrForm)
	mustVersion(t, "rubbish", "", 0, api.ErrEnd)
}

// TestVersionBehindSingles: a 13 or a 10 alone ends no line, and no version has one.
func TestVersionBehindSingles(t *testing.T) {
	for _, single := range []string{"\r", "\n", "\r\r", "\n\n", "\n\r", "\rx", "\nx", "\r \n", "\rx\n"} {
		mustVersion(t, "SSH-2.0-x"+single, "", 0, api.ErrEnd)
		mustVersion(t, "SSH-2.0-x"+single+"x\r\n", "", 0, api.ErrForm)
		mustVersion(t, single+"SSH-2.0-x", "", 0, api.ErrEnd)
		mustVersion(t, single+"SSH-2.0-x\r\n", "", 0, api.ErrForm)
		// The line may have ended where this one is told to: it must be the first 13 10 all the same.
		mustVersion(t, "SSH-2.0-x\r\n"+single, "SSH-2.0-x", 11, api.OK)
	}
	mustVersion(t, "SSH-2.0-x\r\r\n", "", 0, api.ErrForm)
	mustVersion(t, "SSH-2.0-x\n\r\n", "", 0, api.ErrForm)
	mustVersion(t, strings.Repeat("\r", 254), "", 0, api.ErrEnd)
	mustVersion(t, strings.Repeat("\r", 255), "", 0, api.ErrLong)
	mustVersion(t, strings.Repeat("\n", 300), "", 0, api.ErrLong)
	mustVersion(t, strings.Repeat("\n\r", 127), "", 0, api.ErrForm)
}

// TestVersionEndsAtEachPlace puts the first 13 10 behind each number of bytes, of a version and of others, with bytes behind it and without.
func TestVersionEndsAtEachPlace(t *testing.T) {
	version := "SSH-2.0-" + strings.Repeat("v", 300)
	for at := range 300 {
		for _, behind := range []string{"", "\r", "\n", "\r\n", "x", "\x00\x00\x00\x0c", "SSH-2.0-y\r\n", strings.Repeat("more\r\n", 100)} {
			all := version[:at] + "\r\n" + behind
			rubbish := strings.Repeat("z", at) + "\r\n" + behind
			switch {
			case at <= 8:
				mustVersion(t, all, "", 0, api.ErrForm)
				mustVersion(t, rubbish, "", 0, api.ErrForm)
			case at <= 253:
				mustVersion(t, all, version[:at], at+2, api.OK)
				mustVersion(t, rubbish, "", 0, api.ErrForm)
			default:
				mustVersion(t, all, "", 0, api.ErrLong)
				mustVersion(t, rubbish, "", 0, api.ErrLong)
			}
		}
	}
}

// TestVersionAtMaxLine: both bytes of the end must be among the first MaxLine and two.
func TestVersionAtMaxLine(t *testing.T) {
	mustVersion(t, longest, "", 0, api.ErrEnd)
	mustVersion(t, longest+"\r", "", 0, api.ErrEnd)
	mustVersion(t, longest+"\r\n", longest, 255, api.OK)
	mustVersion(t, longest+"\r\r", "", 0, api.ErrLong)
	mustVersion(t, longest+"\r\r\n", "", 0, api.ErrLong)
	mustVersion(t, longest+"x\r", "", 0, api.ErrLong)
	mustVersion(t, longest+"x\r\n", "", 0, api.ErrLong)
	mustVersion(t, longest+"xx\r\n", "", 0, api.ErrLong)
	mustVersion(t, longest+"x", "", 0, api.ErrEnd)
	mustVersion(t, longest+"xx", "", 0, api.ErrLong)
	mustVersion(t, longest[:252]+"\r\n", longest[:252], 254, api.OK)
}

// TestVersionWithoutEnd: it is too long as soon as MaxLine and two bytes are there.
func TestVersionWithoutEnd(t *testing.T) {
	for _, start := range []string{"SSH-2.0-", "z", "\x00", "\xff", "\r", "\n"} {
		for _, size := range []int{1, 8, 9, 100, 252, 253, 254, 255, 256, 257, 1000, 1 << 16, 1 << 20} {
			all := (start + strings.Repeat("x", size))[:size]
			want := api.ErrEnd
			if size >= 255 {
				want = api.ErrLong
			}
			mustVersion(t, all, "", 0, want)
		}
	}
}

// TestVersionInPieces: each beginning of a line waits for more, and what stands behind it does not matter.
func TestVersionInPieces(t *testing.T) {
	for _, s := range []string{"SSH-2.0-x", "SSH-2.0-strongroom", longest} {
		line, _ := nego.Line(s)
		all := append(line, "\r\n\x00\x00\x00\x0c behind"...)
		for cut := range len(all) + 1 {
			if cut < len(s)+2 {
				mustVersion(t, string(all[:cut]), "", 0, api.ErrEnd)
			} else {
				mustVersion(t, string(all[:cut]), s, len(s)+2, api.OK)
			}
		}
	}
}

// TestVersionByHand holds Version against a search and a pattern, of bytes that are nearly lines.
func TestVersionByHand(t *testing.T) {
	r := rand.New(rand.NewSource(1))
	for range 50000 {
		all := []byte("SSH-2.0-" + strings.Repeat("v", r.Intn(260)) + "\r\n" + strings.Repeat("w", r.Intn(20)))
		for range r.Intn(4) {
			all[r.Intn(len(all))] = "\r\n \x1f\x7f\x7e-2\x00\xff"[r.Intn(10)]
		}
		all = all[:len(all)-r.Intn(12)%len(all)]
		head := all[:min(len(all), 255)]
		end := bytes.Index(head, []byte("\r\n"))
		switch {
		case end >= 0 && rightVersions.Match(head[:end]):
			mustVersion(t, string(all), string(head[:end]), end+2, api.OK)
		case end >= 0:
			mustVersion(t, string(all), "", 0, api.ErrForm)
		case len(all) >= 255:
			mustVersion(t, string(all), "", 0, api.ErrLong)
		default:
			mustVersion(t, string(all), "", 0, api.ErrEnd)
		}
	}
}
