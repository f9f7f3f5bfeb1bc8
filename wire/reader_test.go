package wire_test

import (
	"fmt"
	"math"
	"strings"
	"testing"

	"strongroom/api"
	"strongroom/wire"
)

// call is one of the Reader's, and what it must answer in words.
type call struct {
	want string
	do   func(r *wire.Reader) string
}

func readByte(r *wire.Reader) string { return fmt.Sprint(r.Byte()) }
func readBool(r *wire.Reader) string { return fmt.Sprint(r.Bool()) }
func readU32(r *wire.Reader) string  { return fmt.Sprint(r.U32()) }
func readU64(r *wire.Reader) string  { return fmt.Sprint(r.U64()) }
func readRest(r *wire.Reader) string { return fmt.Sprintf("%x", r.Rest()) }

func readNames(r *wire.Reader) string {
	names := r.Names()
	return fmt.Sprintf("%d%q", len(names), names)
}

func readText(most int) func(r *wire.Reader) string {
	return func(r *wire.Reader) string { return fmt.Sprintf("%q", r.Text(most)) }
}

func readMpint(most int) func(r *wire.Reader) string {
	return func(r *wire.Reader) string { return fmt.Sprintf("%x", r.Mpint(most)) }
}

func readRaw(n int) func(r *wire.Reader) string {
	return func(r *wire.Reader) string { return fmt.Sprintf("%x", r.Raw(n)) }
}

// nothing lists each reading call with what it answers behind a refusal.
func nothing() []call {
	return []call{
		{"0", readByte}, {"false", readBool}, {"0", readU32}, {"0", readU64},
		{`""`, readText(99)}, {`""`, readText(0)}, {`""`, readText(-1)},
		{"", readMpint(99)}, {"", readMpint(0)}, {"0[]", readNames},
		{"", readRaw(1)}, {"", readRaw(0)}, {"", readRaw(-1)}, {"", readRest},
		{"0", func(r *wire.Reader) string { return fmt.Sprint(r.Left()) }},
	}
}

type readCase struct {
	bytes string
	read  func(r *wire.Reader) string
	want  string
	left  int
	why   api.Errno
	place int
}

// checkCases reads each case at the beginning, and again behind three bytes, where places are three further on.
func checkCases(t *testing.T, cases []readCase) {
	t.Helper()
	for i, c := range cases {
		for _, ahead := range []string{"", "\x01\x02\x03"} {
			r := wire.NewReader([]byte(ahead + c.bytes))
			r.Raw(len(ahead))
			got, left := c.read(r), r.Left()
			why, place := r.End()
			wantPlace := c.place
			if c.why != api.OK {
				wantPlace += len(ahead)
			}
			if got != c.want || left != c.left || why != c.why || place != wantPlace {
				t.Errorf("P1.2: case %d behind %d bytes: %s, left %d, %d at %d; want %s, left %d, %d at %d", i, len(ahead), got, left, why, place, c.want, c.left, c.why, wantPlace)
			}
		}
	}
}

func TestReaderNumbers(t *testing.T) {
	checkCases(t, []readCase{
		{"\x00", readByte, "0", 0, api.OK, 0},
		{"\xff", readByte, "255", 0, api.OK, 0},
		{"\x80a", readByte, "128", 1, api.ErrTail, 1},
		{"", readByte, "0", 0, api.ErrEnd, 0},
		{"\x00", readBool, "false", 0, api.OK, 0},
		{"\x01", readBool, "true", 0, api.OK, 0},
		{"\x07", readBool, "true", 0, api.OK, 0},
		{"\x80", readBool, "true", 0, api.OK, 0},
		{"\xff\x00", readBool, "true", 1, api.ErrTail, 1},
		{"", readBool, "false", 0, api.ErrEnd, 0},
		{"\x01\x02\x03\x04", readU32, "16909060", 0, api.OK, 0},
		{"\xff\xff\xff\xff", readU32, "4294967295", 0, api.OK, 0},
		{"\x00\x00\x00\x05ab", readU32, "5", 2, api.ErrTail, 4},
		{"\x01\x02\x03\x04\x05\x06\x07\x08", readU64, "72623859790382856", 0, api.OK, 0},
		{"\xff\xff\xff\xff\xff\xff\xff\xff", readU64, "18446744073709551615", 0, api.OK, 0},
		{"\x00\x00\x00\x00\x00\x00\x00\x05a", readU64, "5", 1, api.ErrTail, 8},
	})
}

// TestReaderShort cuts the bytes of each call at each place ahead of their end.
func TestReaderShort(t *testing.T) {
	var cases []readCase
	for _, c := range []struct {
		bytes, zero string
		read        func(r *wire.Reader) string
	}{
		{"\x01", "0", readByte},
		{"\x01", "false", readBool},
		{"\x01\x02\x03\x04", "0", readU32},
		{"\x01\x02\x03\x04\x05\x06\x07\x08", "0", readU64},
		{"\x00\x00\x00\x03abc", `""`, readText(3)},
		{"\x00\x00\x00\x03\x01\x02\x03", "", readMpint(3)},
		{"\x00\x00\x00\x03a,b", "0[]", readNames},
		{"abc", "", readRaw(3)},
	} {
		for n := range len(c.bytes) {
			cases = append(cases, readCase{c.bytes[:n], c.read, c.zero, 0, api.ErrEnd, n})
		}
	}
	checkCases(t, cases)
}

func TestReaderText(t *testing.T) {
	checkCases(t, []readCase{
		{"\x00\x00\x00\x02ab", readText(2), `"ab"`, 0, api.OK, 0},
		{"\x00\x00\x00\x02ab", readText(math.MaxInt), `"ab"`, 0, api.OK, 0},
		{"\x00\x00\x00\x02abc", readText(9), `"ab"`, 1, api.ErrTail, 6},
		{"\x00\x00\x00\x03\x00\xff,", readText(3), `"\x00\xff,"`, 0, api.OK, 0},
		{"\x00\x00\x00\x02ab", readText(1), `""`, 0, api.ErrLong, 0},
		{"\x00\x00\x00\x00", readText(0), `""`, 0, api.OK, 0},
		{"\x00\x00\x00\x01a", readText(0), `""`, 0, api.ErrLong, 0},
		{"\x00\x00\x00\x00", readText(-1), `""`, 0, api.OK, 0},
		{"\x00\x00\x00\x00", readText(math.MinInt), `""`, 0, api.OK, 0},
		{"\x00\x00\x00\x01a", readText(-1), `""`, 0, api.ErrLong, 0},
		{"\x00\x00\x00\x01a", readText(math.MinInt), `""`, 0, api.ErrLong, 0},
		{"\x00\x00\x00\x05ab", readText(4), `""`, 0, api.ErrLong, 0},
		{"\x00\x00\x00\x05ab", readText(5), `""`, 0, api.ErrEnd, 6},
		{"\xff\xff\xff\xffab", readText(math.MaxInt32), `""`, 0, api.ErrLong, 0},
		{"\xff\xff\xff\xffab", readText(math.MaxInt), `""`, 0, api.ErrEnd, 6},
		{"\x80\x00\x00\x00ab", readText(2), `""`, 0, api.ErrLong, 0},
	})
}

func TestReaderMpint(t *testing.T) {
	checkCases(t, []readCase{
		{"\x00\x00\x00\x00", readMpint(9), "", 0, api.OK, 0},
		{"\x00\x00\x00\x00", readMpint(0), "", 0, api.OK, 0},
		{"\x00\x00\x00\x00", readMpint(-1), "", 0, api.OK, 0},
		{"\x00\x00\x00\x01\x01", readMpint(1), "01", 0, api.OK, 0},
		{"\x00\x00\x00\x01\x7fa", readMpint(1), "7f", 1, api.ErrTail, 5},
		{"\x00\x00\x00\x02\x00\x80", readMpint(2), "80", 0, api.OK, 0},
		{"\x00\x00\x00\x02\x00\xff", readMpint(9), "ff", 0, api.OK, 0},
		{"\x00\x00\x00\x03\x00\x80\x00", readMpint(9), "8000", 0, api.OK, 0},
		{"\x00\x00\x00\x02\x01\x80", readMpint(9), "0180", 0, api.OK, 0},
		{"\x00\x00\x00\x02\x01\x00", readMpint(9), "0100", 0, api.OK, 0},
		{"\x00\x00\x00\x01\x80", readMpint(9), "", 0, api.ErrForm, 0},
		{"\x00\x00\x00\x02\xff\x00", readMpint(9), "", 0, api.ErrForm, 0},
		{"\x00\x00\x00\x01\x00", readMpint(9), "", 0, api.ErrForm, 0},
		{"\x00\x00\x00\x02\x00\x01", readMpint(9), "", 0, api.ErrForm, 0},
		{"\x00\x00\x00\x02\x00\x7f", readMpint(9), "", 0, api.ErrForm, 0},
		{"\x00\x00\x00\x02\x00\x00", readMpint(9), "", 0, api.ErrForm, 0},
		{"\x00\x00\x00\x03\x00\x00\x80", readMpint(9), "", 0, api.ErrForm, 0},
		{"\x00\x00\x00\x02\x00\x80", readMpint(1), "", 0, api.ErrLong, 0},
		{"\x00\x00\x00\x01\x80", readMpint(0), "", 0, api.ErrLong, 0},
		{"\x00\x00\x00\x01\x01", readMpint(-1), "", 0, api.ErrLong, 0},
		{"\x00\x00\x00\x02\x80", readMpint(9), "", 0, api.ErrEnd, 5},
		{"\xff\xff\xff\xff\x01", readMpint(math.MaxInt), "", 0, api.ErrEnd, 5},
	})
}

// text is the Text of s.
func text(s string) string {
	n := len(s)
	return string([]byte{byte(n >> 24), byte(n >> 16), byte(n >> 8), byte(n)}) + s
}

func TestReaderNames(t *testing.T) {
	at64, at65 := strings.Repeat("~", 64), strings.Repeat("~", 65)
	most := strings.Repeat("abc,", 249) + "defg"
	checkCases(t, []readCase{
		{text(""), readNames, "0[]", 0, api.OK, 0},
		{text("a"), readNames, `1["a"]`, 0, api.OK, 0},
		{text("zlib,none"), readNames, `2["zlib" "none"]`, 0, api.OK, 0},
		{text("b,a,b") + "q", readNames, `3["b" "a" "b"]`, 1, api.ErrTail, 9},
		{text("!\"+,-~"), readNames, `2["!\"+" "-~"]`, 0, api.OK, 0},
		{text(","), readNames, "0[]", 0, api.ErrForm, 0},
		{text(",a"), readNames, "0[]", 0, api.ErrForm, 0},
		{text("a,"), readNames, "0[]", 0, api.ErrForm, 0},
		{text("a,,b"), readNames, "0[]", 0, api.ErrForm, 0},
		{text(at64), readNames, fmt.Sprintf("1[%q]", at64), 0, api.OK, 0},
		{text(at64 + ",a," + at64), readNames, fmt.Sprintf("3[%q \"a\" %q]", at64, at64), 0, api.OK, 0},
		{text(at65), readNames, "0[]", 0, api.ErrForm, 0},
		{text("a," + at65 + ",b"), readNames, "0[]", 0, api.ErrForm, 0},
		{text(strings.Repeat("a", 1000)), readNames, "0[]", 0, api.ErrForm, 0},
		{text(strings.Repeat("a", 1001)), readNames, "0[]", 0, api.ErrLong, 0},
		{text(most + "x"), readNames, "0[]", 0, api.ErrLong, 0},
		{"\x00\x00\x03\xe9", readNames, "0[]", 0, api.ErrLong, 0},
		{"\x00\x00\x03\xe8a", readNames, "0[]", 0, api.ErrEnd, 5},
		{"\x00\x00\x00\x04a,,", readNames, "0[]", 0, api.ErrEnd, 7},
		{"\xff\xff\xff\xffa", readNames, "0[]", 0, api.ErrLong, 0},
	})
	names := wire.NewReader([]byte(text(most))).Names()
	if len(names) != 250 || strings.Join(names, ",") != most {
		t.Errorf("P1.2: a Text of MaxNames bytes: %q", names)
	}
}

func TestReaderNamesOfEachByte(t *testing.T) {
	for b := range 256 {
		for _, around := range []string{"%s", "%sz", "z%s", "z%sz", "z,y%sz"} {
			s := fmt.Sprintf(around, string([]byte{byte(b)}))
			r := wire.NewReader([]byte(text(s)))
			names := r.Names()
			why, place := r.End()
			right := b >= 33 && b <= 126
			if b == ',' { // it parts: right where both parts have bytes
				right = around == "z%sz" || around == "z,y%sz"
			}
			if right && (why != api.OK || strings.Join(names, ",") != s) {
				t.Errorf("P1.2: Names of %q: %q, %d", s, names, why)
			}
			if !right && (why != api.ErrForm || place != 0 || len(names) != 0) {
				t.Errorf("P1.2: Names of %q: %q, %d at %d", s, names, why, place)
			}
		}
	}
}

func TestReaderRawAndRest(t *testing.T) {
	checkCases(t, []readCase{
		{"abc", readRaw(3), "616263", 0, api.OK, 0},
		{"abc", readRaw(2), "6162", 1, api.ErrTail, 2},
		{"abc", readRaw(0), "", 3, api.ErrTail, 0},
		{"abc", readRaw(-1), "", 3, api.ErrTail, 0},
		{"abc", readRaw(math.MinInt), "", 3, api.ErrTail, 0},
		{"abc", readRaw(4), "", 0, api.ErrEnd, 3},
		{"abc", readRaw(math.MaxInt), "", 0, api.ErrEnd, 3},
		{"", readRaw(0), "", 0, api.OK, 0},
		{"", readRaw(1), "", 0, api.ErrEnd, 0},
		{"abc", readRest, "616263", 0, api.OK, 0},
		{"", readRest, "", 0, api.OK, 0},
	})
	r := wire.NewReader(nil)
	if len(r.Rest()) != 0 || r.Left() != 0 {
		t.Error("P1.2: Rest of nil")
	}
	r = wire.NewReader([]byte("abc"))
	r.Rest()
	r.Byte()
	if why, place := r.End(); why != api.ErrEnd || place != 3 {
		t.Errorf("P1.2: behind Rest: %d at %d", why, place)
	}
}

func TestReaderGoesOn(t *testing.T) {
	r := wire.NewReader([]byte("\xff\x07\x00\x01\x02\x03\x04\x00\x00\x00\x00\x00\x00\x00\x09\x00\x00\x00\x02ab\x00\x00\x00\x02\x00\x80\x09\x09\x00\x00\x00\x03a,bxyz"))
	got := strings.Join([]string{
		readByte(r), readBool(r), readBool(r), readU32(r), readU64(r), readText(2)(r), readMpint(2)(r), readRaw(2)(r), readNames(r), fmt.Sprint(r.Left()), readRest(r), fmt.Sprint(r.Left()),
	}, " ")
	if want := `255 true false 16909060 9 "ab" 80 0909 2["a" "b"] 3 78797a 0`; got != want {
		t.Errorf("P1.2: %s, want %s", got, want)
	}
	if why, place := r.End(); why != api.OK || place != 0 {
		t.Errorf("P1.2: %d at %d", why, place)
	}
}

func TestReaderFail(t *testing.T) {
	r := wire.NewReader([]byte("abc"))
	r.Byte()
	r.Fail(api.OK)
	if r.Left() != 2 || r.Byte() != 'b' {
		t.Error("P1.2: Fail(OK) did something")
	}
	r.Fail(api.ErrKind)
	r.Fail(api.ErrName)
	r.Fail(api.OK)
	if why, place := r.End(); why != api.ErrKind || place != 2 || r.Left() != 0 {
		t.Errorf("P1.2: Fail: %d at %d", why, place)
	}
	r = wire.NewReader(nil)
	r.Fail(api.ErrTail)
	if why, place := r.End(); why != api.ErrTail || place != 0 {
		t.Errorf("P1.2: Fail of nothing: %d at %d", why, place)
	}
	r = wire.NewReader([]byte("ab"))
	r.Rest()
	r.Fail(api.Errno(-7))
	if why, place := r.End(); why != api.Errno(-7) || place != 2 {
		t.Errorf("P1.2: Fail at the end: %d at %d", why, place)
	}
}

// TestReaderFirstRefusalStays makes each refusal and calls everything behind it; readable bytes follow each.
func TestReaderFirstRefusalStays(t *testing.T) {
	follow := "\x00\x00\x00\x01a\x00\x00\x00\x01a\x00\x00\x00\x01a"
	for i, c := range []struct {
		bytes  string
		refuse func(r *wire.Reader)
		why    api.Errno
		place  int
	}{
		{"z" + text("ab") + follow, func(r *wire.Reader) { r.Byte(); r.Text(1) }, api.ErrLong, 1},
		{"z" + text("\x80") + follow, func(r *wire.Reader) { r.Byte(); r.Mpint(9) }, api.ErrForm, 1},
		{"z" + text("a,,b") + follow, func(r *wire.Reader) { r.Byte(); r.Names() }, api.ErrForm, 1},
		{"z" + follow, func(r *wire.Reader) { r.Byte(); r.Raw(99) }, api.ErrEnd, 16},
		{"z" + follow, func(r *wire.Reader) { r.Byte(); r.Fail(api.ErrState) }, api.ErrState, 1},
		{"abc", func(r *wire.Reader) { r.U32() }, api.ErrEnd, 3},
		{"abc", func(r *wire.Reader) { r.U64() }, api.ErrEnd, 3},
		{"", func(r *wire.Reader) { r.Bool() }, api.ErrEnd, 0},
	} {
		for j, after := range nothing() {
			r := wire.NewReader([]byte(c.bytes))
			c.refuse(r)
			for range 2 {
				if got := after.do(r); got != after.want {
					t.Errorf("P1.2: case %d, call %d behind it: %s, want %s", i, j, got, after.want)
				}
				r.Fail(api.ErrArg)
				if why, place := r.End(); why != c.why || place != c.place || r.Left() != 0 {
					t.Errorf("P1.2: case %d, call %d behind it: %d at %d, left %d", i, j, why, place, r.Left())
				}
			}
		}
	}
}

func TestReaderEndDoesNotStay(t *testing.T) {
	r := wire.NewReader([]byte("ab"))
	for place := range 2 {
		if why, at := r.End(); why != api.ErrTail || at != place {
			t.Errorf("P1.2: End: %d at %d, want %d", why, at, place)
		}
		if r.Left() != 2-place || r.Byte() != 'a'+place {
			t.Errorf("P1.2: End moved something at %d", place)
		}
	}
	if why, at := r.End(); why != api.OK || at != 0 {
		t.Errorf("P1.2: End: %d at %d", why, at)
	}
}

func TestReaderKeepsNothing(t *testing.T) {
	b, room := withSpare("ab\x00\x00\x00\x01c\x00\x00\x00\x01d\x00\x00\x00\x01eft")
	before := string(room)
	r := wire.NewReader(b)
	raw := r.Raw(2)
	s, m, names := r.Text(1), r.Mpint(1), r.Names()
	rest := r.Rest()
	if string(room) != before {
		t.Error("R2: reading changed what was handed in")
	}
	for _, l := range [][]byte{raw, m, rest} {
		l = l[:cap(l)]
		for i := range l {
			l[i] = 'X'
		}
	}
	if string(room) != before {
		t.Error("R2: an answer shares memory with what was handed in")
	}
	if s != "c" || names[0] != "e" || rest[0] != 'X' {
		t.Error("R2: answers share memory")
	}
	r = wire.NewReader(b)
	clear(room)
	if got := r.Raw(2); string(got) != "ab" {
		t.Errorf("R2: what was handed in was kept: %q", got)
	}
	first := r.Text(1)
	got := r.Mpint(1)
	clear(got[:cap(got)])
	if left := string(r.Rest()); first != "c" || left != text("e")+"ft" {
		t.Errorf("R2: an answer shares memory with the Reader: %q", left)
	}
}

func TestReaderRawIsNotTheReaders(t *testing.T) {
	r := wire.NewReader([]byte("abcdef"))
	a := r.Raw(2)
	a = a[:cap(a)]
	for i := range a {
		a[i] = 'X'
	}
	if got := string(r.Raw(4)); got != "cdef" {
		t.Errorf("R2: %q", got)
	}
}

// TestReaderLeavesSpareRoom: bytes behind the length are not read.
func TestReaderLeavesSpareRoom(t *testing.T) {
	b, _ := withSpare("ab")
	r := wire.NewReader(b)
	if r.Left() != 2 {
		t.Errorf("R5: left %d", r.Left())
	}
	r.Raw(3)
	if why, place := r.End(); why != api.ErrEnd || place != 2 {
		t.Errorf("R5: %d at %d", why, place)
	}
}
