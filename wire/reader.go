package wire

import (
	"slices"

	"strongroom/api"
)

// maxNameLength is the most bytes that one name of a name-list has.
const maxNameLength = 64

// Reader reads bytes, each call behind what the calls ahead of it read.
// Nothing moves behind a refusal, so at is then the refusal's place.
type Reader struct {
	bytes []byte
	at    int
	why   api.Errno
}

// NewReader makes a Reader of b; it keeps a copy, so that b may change later.
func NewReader(b []byte) *Reader { return &Reader{bytes: slices.Clone(b)} }

// Byte reads one byte.
func (r *Reader) Byte() int { return int(r.number(1)) }

// Bool reads one byte: true if it is not 0.
func (r *Reader) Bool() bool { return r.number(1) != 0 }

// U32 reads four bytes, the highest first.
func (r *Reader) U32() uint32 { return uint32(r.number(4)) }

// U64 reads eight bytes, the highest first.
func (r *Reader) U64() uint64 { return r.number(8) }

// Text reads a Text of at most that many bytes.
func (r *Reader) Text(most int) string { return string(r.text(most)) }

// Mpint reads a Text of at most that many bytes that a Mpint may be, and answers the number's bytes, the highest first.
func (r *Reader) Mpint(most int) []byte {
	start := r.at
	b := r.text(most)
	if len(b) == 0 {
		return nil
	}
	if hasTopBit(b[0]) {
		goto wrong
	}
	if b[0] != 0 {
		goto right
	}
	b = b[1:]
	// The nought is there for the sake of a top bit alone: without one, it needn't be.
	if len(b) == 0 || !hasTopBit(b[0]) {
		goto wrong
	}
right:
	return slices.Clone(b)
wrong:
	r.refuse(api.ErrForm, start)
	return nil
}

// Names reads a Text of names that are parted by commas.
func (r *Reader) Names() []string {
	start := r.at
	names, ok := splitNames(r.Text(api.MaxNames))
	if !ok {
		r.refuse(api.ErrForm, start)
	}
	return names
}

// Raw reads n bytes, none if n is below 0.
func (r *Reader) Raw(n int) []byte { return slices.Clone(r.take(uint64(max(n, 0)))) }

// Rest reads all bytes that are left.
func (r *Reader) Rest() []byte { return r.Raw(r.Left()) }

// Fail refuses at the place that was read up to, unless why is OK or something was refused already.
func (r *Reader) Fail(why api.Errno) { r.refuse(why, r.at) }

// Left is how many bytes may still be read.
func (r *Reader) Left() int {
	if r.why != api.OK {
		return 0
	}
	return len(r.bytes) - r.at
}

// End tells the refusal and its place; bytes that are left are one too, but it does not stay.
func (r *Reader) End() (api.Errno, int) {
	if r.why != api.OK {
		return r.why, r.at
	}
	if r.Left() > 0 {
		return api.ErrTail, r.at
	}
	return api.OK, 0
}

// refuse keeps the first refusal alone.
func (r *Reader) refuse(why api.Errno, place int) {
	if r.why == api.OK {
		r.why, r.at = why, place
	}
}

// take reads n bytes and answers them where they lie: callers copy what they hand out.
func (r *Reader) take(n uint64) []byte {
	start := r.at
	if r.why != api.OK {
		goto none
	}
	// Held against what is left, not added to at: n may be anything.
	if n > uint64(r.Left()) {
		goto short
	}
	r.at += int(n)
	return r.bytes[start:r.at]
short:
	r.refuse(api.ErrEnd, len(r.bytes))
none:
	return nil
}

// number reads that many bytes as a number, the highest first.
func (r *Reader) number(size uint64) uint64 {
	var n uint64
	b := r.take(size)
next:
	if len(b) == 0 {
		return n
	}
	n = n<<8 | uint64(b[0])
	b = b[1:]
	goto next
}

// text reads a Text's bytes and answers them where they lie.
func (r *Reader) text(most int) []byte {
	start := r.at
	size := r.number(4)
	// Behind a refusal the size is 0, which is above nothing.
	if size > uint64(max(most, 0)) {
		goto long
	}
	return r.take(size)
long:
	r.refuse(api.ErrLong, start)
	return nil
}

// splitNames parts s at its commas; false if one of the parts is not a name.
func splitNames(s string) ([]string, bool) {
	var names []string
	start, at := 0, 0
	if s == "" {
		return nil, true
	}
name:
	start = at
letter:
	if at == len(s) || s[at] == ',' {
		goto parted
	}
	if s[at] < '!' || s[at] > '~' {
		goto wrong
	}
	at++
	goto letter
parted:
	if at == start || at-start > maxNameLength {
		goto wrong
	}
	names = append(names, s[start:at])
	if at == len(s) {
		return names, true
	}
	at++
	goto name
wrong:
	return nil, false
}
