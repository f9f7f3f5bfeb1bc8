package wire_test

import (
	"fmt"
	"math"
	"strings"
	"testing"

	"strongroom/wire"
)

// written is what the calls write to a new Writer, in hexadecimal.
func written(calls func(w *wire.Writer)) string {
	w := wire.NewWriter()
	calls(w)
	return fmt.Sprintf("%x", w.Done())
}

// withSpare is b with room behind it that holds marks.
func withSpare(b string) (list, room []byte) {
	room = []byte(b + "\xee\xee\xee\xee\xee\xee\xee\xee")
	return room[:len(b)], room
}

func TestWriterNumbers(t *testing.T) {
	for i, c := range []struct {
		calls func(w *wire.Writer)
		want  string
	}{
		{func(w *wire.Writer) {}, ""},
		{func(w *wire.Writer) { w.Byte(0) }, "00"},
		{func(w *wire.Writer) { w.Byte(0x7f) }, "7f"},
		{func(w *wire.Writer) { w.Byte(255) }, "ff"},
		{func(w *wire.Writer) { w.Byte(256) }, "00"},
		{func(w *wire.Writer) { w.Byte(0x1234) }, "34"},
		{func(w *wire.Writer) { w.Byte(-1) }, "ff"},
		{func(w *wire.Writer) { w.Byte(-2) }, "fe"},
		{func(w *wire.Writer) { w.Byte(math.MinInt) }, "00"},
		{func(w *wire.Writer) { w.Byte(math.MaxInt) }, "ff"},
		{func(w *wire.Writer) { w.Bool(true) }, "01"},
		{func(w *wire.Writer) { w.Bool(false) }, "00"},
		{func(w *wire.Writer) { w.U32(0) }, "00000000"},
		{func(w *wire.Writer) { w.U32(0x01020304) }, "01020304"},
		{func(w *wire.Writer) { w.U32(math.MaxUint32) }, "ffffffff"},
		{func(w *wire.Writer) { w.U64(0) }, "0000000000000000"},
		{func(w *wire.Writer) { w.U64(0xf102030405060708) }, "f102030405060708"},
		{func(w *wire.Writer) { w.U64(math.MaxUint64) }, "ffffffffffffffff"},
	} {
		if got := written(c.calls); got != c.want {
			t.Errorf("P1.1: case %d: %s, want %s", i, got, c.want)
		}
	}
}

func TestWriterTexts(t *testing.T) {
	for s, want := range map[string]string{
		"":              "00000000",
		"a":             "0000000161",
		"\x00\xff,\xc3": "0000000400ff2cc3",
	} {
		if got := written(func(w *wire.Writer) { w.Text(s) }); got != want {
			t.Errorf("P1.1: Text(%q): %s, want %s", s, got, want)
		}
	}
	for _, n := range []int{255, 256, 65535, 65536, 1<<24 + 2} {
		w := wire.NewWriter()
		w.Text(strings.Repeat("x", n))
		b := w.Done()
		if len(b) != n+4 {
			t.Fatalf("P1.1: a Text of %d bytes has %d", n, len(b))
		}
		if size := int(b[0])<<24 | int(b[1])<<16 | int(b[2])<<8 | int(b[3]); size != n {
			t.Errorf("P1.1: the U32 of a Text of %d bytes is %d", n, size)
		}
	}
}

func TestWriterMpint(t *testing.T) {
	for _, c := range []struct{ in, want string }{
		{"", "00000000"},
		{"\x00", "00000000"},
		{"\x00\x00", "00000000"},
		{"\x00\x00\x00\x00", "00000000"},
		{"\x01", "0000000101"},
		{"\x7f", "000000017f"},
		{"\x80", "000000020080"},
		{"\xff", "0000000200ff"},
		{"\x00\x80", "000000020080"},
		{"\x00\x00\x80", "000000020080"},
		{"\x00\x00\x01", "0000000101"},
		{"\x01\x00", "000000020100"},
		{"\x01\x80", "000000020180"},
		{"\x80\x00", "00000003008000"},
		{"\x00\x7f\x00", "000000027f00"},
		{"\x09\xa3\x78\xf9\xb2\xe3\x32\xa7", "0000000809a378f9b2e332a7"},
	} {
		if got := written(func(w *wire.Writer) { w.Mpint([]byte(c.in)) }); got != c.want {
			t.Errorf("P1.1: Mpint(%x): %s, want %s", c.in, got, c.want)
		}
	}
	if got := written(func(w *wire.Writer) { w.Mpint(nil) }); got != "00000000" {
		t.Errorf("P1.1: Mpint(nil): %s", got)
	}
}

func TestWriterNames(t *testing.T) {
	for i, c := range []struct {
		names []string
		want  string
	}{
		{nil, "00000000"},
		{[]string{}, "00000000"},
		{[]string{"zlib"}, "000000047a6c6962"},
		{[]string{"zlib", "none"}, "000000097a6c69622c6e6f6e65"},
		{[]string{"a", "b", "c"}, "00000005612c622c63"},
		{[]string{""}, "00000000"},
		{[]string{"", ""}, "000000012c"},
		{[]string{"a b", "\xff"}, "000000056120622cff"},
	} {
		if got := written(func(w *wire.Writer) { w.Names(c.names) }); got != c.want {
			t.Errorf("P1.1: case %d: %s, want %s", i, got, c.want)
		}
	}
}

func TestWriterGoesOn(t *testing.T) {
	w := wire.NewWriter()
	if len(w.Done()) != 0 {
		t.Error("P1.1: Done of nothing")
	}
	w.Raw(nil)
	w.Raw([]byte{})
	w.Raw([]byte{1, 2})
	first := w.Done()
	w.Byte(3)
	w.U32(4)
	w.Raw([]byte{5})
	if got := fmt.Sprintf("%x %x", first, w.Done()); got != "0102 0102030000000405" {
		t.Errorf("P1.1: %s", got)
	}
	if got := fmt.Sprintf("%x", w.Done()); got != "0102030000000405" {
		t.Errorf("P1.1: Done again: %s", got)
	}
}

func TestWriterDoneIsNewMemory(t *testing.T) {
	w := wire.NewWriter()
	w.Raw([]byte{1, 2, 3})
	a, b := w.Done(), w.Done()
	for i := range a[:cap(a)] {
		a[:cap(a)][i] = 99
	}
	w.Byte(4)
	w.Byte(5)
	if got := fmt.Sprint(b, w.Done()); got != "[1 2 3] [1 2 3 4 5]" {
		t.Errorf("R2: %s", got)
	}
	for i, n := range a[:cap(a)] {
		if n != 99 {
			t.Errorf("R2: place %d of an answer was written later", i)
		}
	}
}

func TestWriterLeavesArguments(t *testing.T) {
	w := wire.NewWriter()
	for _, s := range []string{"\x80\x01", "\x00\x00\x01", ""} {
		list, room := withSpare(s)
		before := string(room)
		w.Mpint(list)
		w.Raw(list)
		w.Byte(1)
		if string(room) != before {
			t.Errorf("R2: %x became %x", before, room)
		}
	}
	w = wire.NewWriter()
	list, room := withSpare("abc")
	w.Raw(list)
	names := []string{"a", "b", "spare"}
	w.Names(names[:2])
	clear(room)
	if got := string(w.Done()); got != "abc\x00\x00\x00\x03a,b" || names[2] != "spare" {
		t.Errorf("R2: %q, %q", got, names)
	}
}
