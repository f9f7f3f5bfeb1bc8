// Package wire writes and reads numbers, texts and lists as bytes: see doc/01-wire.md.
package wire

import (
	"slices"
	"strings"
)

// Writer gathers bytes, each call's behind those of the calls ahead of it.
type Writer struct {
	bytes []byte
}

// NewWriter makes a Writer that has written nothing yet.
func NewWriter() *Writer { return &Writer{} }

// Byte writes the lowest 8 bits of n.
func (w *Writer) Byte(n int) { w.bytes = append(w.bytes, byte(n)) }

// Bool writes a byte, 1 for true and 0 for false.
func (w *Writer) Bool(v bool) {
	if v {
		w.Byte(1)
		return
	}
	w.Byte(0)
}

// U32 writes four bytes, the highest first.
func (w *Writer) U32(n uint32) { w.number(uint64(n), 4) }

// U64 writes eight bytes, the highest first.
func (w *Writer) U64(n uint64) { w.number(n, 8) }

func (w *Writer) number(n uint64, size int) {
	for shift := 8 * (size - 1); shift >= 0; shift -= 8 {
		w.bytes = append(w.bytes, byte(n>>shift))
	}
}

// Text writes the U32 of s's length and its bytes.
func (w *Writer) Text(s string) {
	w.U32(uint32(len(s)))
	w.bytes = append(w.bytes, s...)
}

// Mpint writes the number whose bytes, the highest first, are b, as the shortest Text that does not look negative.
func (w *Writer) Mpint(b []byte) {
	for len(b) > 0 && b[0] == 0 {
		b = b[1:]
	}
	// A top bit that is set would be a sign in RFC 4251, so a nought goes ahead of it.
	if len(b) > 0 && hasTopBit(b[0]) {
		w.U32(uint32(len(b)) + 1)
		w.Byte(0)
	} else {
		w.U32(uint32(len(b)))
	}
	w.Raw(b)
}

func hasTopBit(b byte) bool { return b&0x80 != 0 }

// Names writes a Text of the names, parted by commas.
func (w *Writer) Names(l []string) { w.Text(strings.Join(l, ",")) }

// Raw writes b as it is.
func (w *Writer) Raw(b []byte) { w.bytes = append(w.bytes, b...) }

// Done answers all that was written so far; writing may go on behind it.
func (w *Writer) Done() []byte { return slices.Clone(w.bytes) }
