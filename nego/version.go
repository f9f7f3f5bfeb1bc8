package nego

import (
	"strings"

	"strongroom/api"
)

const (
	// versionStart is what each version begins with, and has more behind it.
	versionStart = "SSH-2.0-"
	lineEnd      = "\r\n"
	// maxRead is the most bytes that a version and the end of its line have.
	maxRead = api.MaxLine + len(lineEnd)
)

// Line answers the line that tells the version s.
func Line(s string) ([]byte, api.Errno) {
	if !rightVersion(s) {
		return nil, api.ErrForm
	}
	return []byte(s + lineEnd), api.OK
}

// Version answers the version that b begins with, and where its line ends.
func Version(b []byte) (string, int, api.Errno) {
	// Bytes further on are not looked at, so that a line that is too long is refused as soon as it is.
	b = b[:min(len(b), maxRead)]
	for at := range b {
		if !endsLine(b[at:]) {
			continue
		}
		s := string(b[:at])
		if !rightVersion(s) {
			return "", 0, api.ErrForm
		}
		return s, at + len(lineEnd), api.OK
	}
	if len(b) == maxRead {
		return "", 0, api.ErrLong
	}
	return "", 0, api.ErrEnd
}

// endsLine says whether both bytes of a line's end stand first in b.
func endsLine(b []byte) bool {
	return len(b) >= len(lineEnd) && b[0] == lineEnd[0] && b[1] == lineEnd[1]
}

func rightVersion(s string) bool {
	if !strings.HasPrefix(s, versionStart) || len(s) == len(versionStart) || len(s) > api.MaxLine {
		return false
	}
	// By bytes: a range over the text would go by runes.
	for i := range len(s) {
		if s[i] < ' ' || s[i] > '~' {
			return false
		}
	}
	return true
}
