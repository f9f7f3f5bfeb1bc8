package path_test

import (
	"fmt"
	"math/rand"
	"slices"
	"strings"
	"testing"

	"strongroom/api"
	"strongroom/path"
)

var (
	// longest is as long as a name may be, and tooLong has one byte more.
	longest = strings.Repeat("n", 30)
	tooLong = strings.Repeat("n", 31)
)

// mustSplit holds Split of s, and Clean of it, against the names.
func mustSplit(t *testing.T, s string, want ...string) {
	t.Helper()
	if names, why := path.Split(s); why != api.OK || !slices.Equal(names, want) {
		t.Errorf("P13.1: Split(%.250q): %q, %v; want %q", s, names, why, want)
	}
	whole := "/" + strings.Join(want, "/")
	if c, why := path.Clean(s); why != api.OK || c != whole {
		t.Errorf("P13.1: Clean(%.250q): %q, %v; want %q", s, c, why, whole)
	}
}

// mustNotSplit holds the refusals of Split and of Clean against the one that must be; nothing may stand beside it.
func mustNotSplit(t *testing.T, s string, want api.Errno) {
	t.Helper()
	if names, why := path.Split(s); why != want || len(names) != 0 {
		t.Errorf("P13.1: Split(%.250q): %q, %v; want %v", s, names, why, want)
	}
	if c, why := path.Clean(s); why != want || c != "" {
		t.Errorf("P13.1: Clean(%.250q): %q, %v; want %v", s, c, why, want)
	}
}

// TestRunsAndExamples are the chapter's.
func TestRunsAndExamples(t *testing.T) {
	mustSplit(t, "a//b/../c", "a", "c")
	mustSplit(t, "")
	mustSplit(t, "/..")
	mustNotSplit(t, tooLong, api.ErrName)
}

func TestSplit(t *testing.T) {
	for _, c := range []struct{ s, want string }{
		{"a", "a"}, {"/a", "a"}, {"a/", "a"}, {"/a/", "a"}, {"//a//", "a"},
		{"a/b", "a b"}, {"/a/b", "a b"}, {"a/b/", "a b"}, {"/a/b/", "a b"}, {"a/b/c", "a b c"},
		{"a/a/a", "a a a"}, {"ab/b/a", "ab b a"}, {"A/a", "A a"},
		{"a//b", "a b"}, {"///a///b///", "a b"},
		{".", ""}, {"./", ""}, {"/.", ""}, {"/./", ""}, {"./.", ""}, {"././.", ""}, {".//.", ""},
		{"./a", "a"}, {"a/.", "a"}, {"a/./", "a"}, {"a/./b", "a b"}, {"./a/./b/.", "a b"}, {"/./a/././b//./", "a b"},
		{".a/b.", ".a b."}, {".../a", "... a"}, {"a/...", "a ..."}, {"..a/a..", "..a a.."}, {".../..", ""}, {"a/.../../b", "a b"}, {"..../...", ".... ..."},
		{longest, longest}, {"/" + longest + "/" + longest, longest + " " + longest},
	} {
		mustSplit(t, c.s, strings.Fields(c.want)...)
	}
}

func TestSplitUp(t *testing.T) {
	for _, c := range []struct{ s, want string }{
		{"..", ""}, {"/..", ""}, {"../", ""}, {"/../", ""}, {"../..", ""}, {"../../..", ""}, {"/..//../", ""}, {"./..", ""}, {"../.", ""},
		{"../a", "a"}, {"/../a", "a"}, {"../../a", "a"}, {"../a/b", "a b"}, {".././a", "a"},
		{"a/..", ""}, {"/a/..", ""}, {"a/../", ""}, {"a//..", ""}, {"a/./..", ""}, {"a/.././", ""},
		{"a/../b", "b"}, {"a/../a", "a"}, {"a/b/..", "a"}, {"a/b/../c", "a c"}, {"a/b/../..", ""}, {"a/b/../../c", "c"}, {"a/b/./..//../c", "c"},
		{"a/b/c/..", "a b"}, {"a/b/c/../..", "a"}, {"a/b/c/../../d/e", "a d e"}, {"a/../b/../c/..", ""}, {"a/b/../c/../d", "a d"},
		{"a/../..", ""}, {"a/../../b", "b"}, {"a/b/../../..", ""}, {"a/b/../../../c", "c"}, {"a/../../../b/c/..", "b"}, {"../a/../../b/..", ""},
		{longest + "/..", ""}, {longest + "/../a", "a"},
	} {
		mustSplit(t, c.s, strings.Fields(c.want)...)
	}
}

// TestSplitNamesAsTheyAre: what other systems read into a name is part of it here.
func TestSplitNamesAsTheyAre(t *testing.T) {
	for _, name := range []string{" ", " a ", ". ", " .", ".. ", `\`, `a\b`, `..\`, "C:", "%2f", "%2e%2e", "~", "*", "\n", "\x01", "\xff", "\xc0\xaf", "\u2215", "\u2025", "e\u0301", "\u00e9"} {
		mustSplit(t, name, name)
		mustSplit(t, "/a/"+name+"/b/", "a", name, "b")
		mustSplit(t, name+"/../"+name+"/.", name)
	}
}

func TestSplitStrokes(t *testing.T) {
	for n := range 201 {
		mustSplit(t, strings.Repeat("/", n))
		if n >= 3 {
			mustSplit(t, strings.Repeat("/", n-3)+"a/b", "a", "b")
			mustSplit(t, "a"+strings.Repeat("/", n-2)+"b", "a", "b")
			mustSplit(t, "a/b"+strings.Repeat("/", n-3), "a", "b")
		}
	}
}

// TestSplitLongest: texts of 200 bytes are split, and with one byte more, whatever it is and wherever, they are not.
func TestSplitLongest(t *testing.T) {
	six := strings.Repeat("/"+longest, 6)
	for _, c := range []struct {
		s    string
		want []string
	}{
		{strings.Repeat("/", 200), nil},
		{strings.Repeat("./", 100), nil},
		{strings.Repeat("../", 66) + "..", nil},
		{strings.Repeat("a/", 100), slices.Repeat([]string{"a"}, 100)},
		{strings.Repeat("/a", 100), slices.Repeat([]string{"a"}, 100)},
		{strings.Repeat("/a", 50) + strings.Repeat("/.", 50), slices.Repeat([]string{"a"}, 50)},
		{strings.Repeat("a/", 40) + strings.Repeat("../", 40), nil},
		{six + "/" + strings.Repeat("m", 13), append(slices.Repeat([]string{longest}, 6), strings.Repeat("m", 13))},
		{six[1:] + "/" + strings.Repeat("m", 14), append(slices.Repeat([]string{longest}, 6), strings.Repeat("m", 14))},
		{six + "/" + strings.Repeat("m", 12) + "/", append(slices.Repeat([]string{longest}, 6), strings.Repeat("m", 12))},
		{strings.Repeat("\u20ac", 9) + "/" + strings.Repeat("\u20ac", 9) + strings.Repeat("/", 145), slices.Repeat([]string{strings.Repeat("\u20ac", 9)}, 2)},
	} {
		s := c.s + strings.Repeat("/", 200-len(c.s))
		mustSplit(t, s, c.want...)
		mustAgree(t, s[:199])
		for _, more := range []string{"/", ".", "a", "\x00", "\xff"} {
			mustNotSplit(t, s+more, api.ErrLong)
			mustNotSplit(t, more+s, api.ErrLong)
			mustNotSplit(t, s[:100]+more+s[100:], api.ErrLong)
		}
	}
}

func TestSplitTooLong(t *testing.T) {
	for _, piece := range []string{"/", "a/", "a", ".", "../", "\x00", "/\x00", tooLong + "/", "\u20ac", "\u20ac/"} {
		for _, n := range []int{201, 202, 255, 256, 257, 300, 400, 456, 1 << 16, 1<<16 + 1, 1 << 20} {
			mustNotSplit(t, strings.Repeat(piece, n)[:n], api.ErrLong)
		}
	}
	// It is bytes that are counted: these are fewer runes than 200.
	mustNotSplit(t, strings.Repeat("\u20ac/", 50)+"/", api.ErrLong)
	mustSplit(t, strings.Repeat("\u20ac/", 50), slices.Repeat([]string{"\u20ac"}, 50)...)
}

// wrongParts are not Right, and none of them is passed by or leads up.
func wrongParts() []string {
	return []string{
		"\x00", "a\x00", "\x00a", "a\x00b", ".\x00", "\x00.", "..\x00", "\x00..", "...\x00", "\x00\x00",
		tooLong, longest + ".", "." + longest, strings.Repeat(".", 31), strings.Repeat("\u20ac", 10) + "a", strings.Repeat("n", 40), longest + "\x00", strings.Repeat("\x00", 31),
	}
}

// TestSplitWrongParts has each of them at each place among several parts.
func TestSplitWrongParts(t *testing.T) {
	for _, wrong := range wrongParts() {
		for _, around := range [][]string{nil, {"a"}, {"a", "b"}, {"a", "b", "c"}, {"", ""}, {".", "."}, {"..", ".."}, {"a", ".."}, {"a", "..", "b", ".", ""}, {longest, longest}, {"...", ".a"}} {
			for at := range len(around) + 1 {
				mustNotSplit(t, strings.Join(slices.Insert(slices.Clone(around), at, wrong), "/"), api.ErrName)
			}
		}
		// What is behind does not take it away.
		for _, form := range []string{"%s/..", "/%s/..", "%s/../", "a/%s/..", "a/%s/../b", "%s/../..", "%s/./..", "%s//..", "../%s/..", "a/%s/../..", "%s/../a"} {
			mustNotSplit(t, fmt.Sprintf(form, wrong), api.ErrName)
		}
		for _, other := range wrongParts() {
			mustNotSplit(t, wrong+"/"+other, api.ErrName)
			mustNotSplit(t, "/a/"+wrong+"/b/../"+other+"/", api.ErrName)
		}
	}
}

// TestSplitWrongPartsOfTooLongTexts: that they are too long is what they are refused for.
func TestSplitWrongPartsOfTooLongTexts(t *testing.T) {
	for _, wrong := range wrongParts() {
		left := 200 - len(wrong)
		for _, filler := range []string{strings.Repeat("/", left), strings.Repeat("/a", left)[:left-1] + "/"} {
			mustNotSplit(t, filler+wrong, api.ErrName)
			mustNotSplit(t, "/"+filler+wrong, api.ErrLong)
			back := "/" + filler[:left-1]
			mustNotSplit(t, wrong+back, api.ErrName)
			mustNotSplit(t, wrong+back+"/", api.ErrLong)
			mustNotSplit(t, wrong+"/.."+back, api.ErrLong)
		}
	}
}

// TestSplitAsStandsBetweenStrokes: a part is neither shortened nor put together with others ahead of being asked.
func TestSplitAsStandsBetweenStrokes(t *testing.T) {
	half := longest[:15]
	mustSplit(t, half+"/"+half+"n", half, half+"n")
	mustSplit(t, half+"/./"+half+"n", half, half+"n")
	mustSplit(t, "./"+longest+"/.", longest)
	mustSplit(t, "../"+longest+"/..")
	mustSplit(t, "./././././././././././././././././a", "a")
	for _, part := range []string{"." + longest, longest + ".", ".." + longest[1:], longest[1:] + "..", " " + longest, longest + " ", longest + "\n", longest + "\xff"} {
		mustNotSplit(t, part, api.ErrName)
		mustNotSplit(t, "/"+part+"/", api.ErrName)
		mustSplit(t, part[:30], part[:30])
		mustSplit(t, part[1:], part[1:])
	}
}

// TestSplitEachLength: a name of each length behind and ahead of another one.
func TestSplitEachLength(t *testing.T) {
	for n := 1; n <= 60; n++ {
		name := strings.Repeat("m", n)
		if n > 30 {
			mustNotSplit(t, name, api.ErrName)
			mustNotSplit(t, "a/"+name+"/b", api.ErrName)
			continue
		}
		mustSplit(t, name, name)
		mustSplit(t, "a/"+name+"/b", "a", name, "b")
	}
}

func TestSplitEachByte(t *testing.T) {
	for b := range 256 {
		s := string([]byte{byte(b)})
		switch b {
		case 0:
			mustNotSplit(t, s, api.ErrName)
			mustNotSplit(t, "ab/x"+s+"y/c", api.ErrName)
		case '/':
			mustSplit(t, s)
			mustSplit(t, "ab/x"+s+"y/c", "ab", "x", "y", "c")
		case '.':
			mustSplit(t, s)
			mustSplit(t, "ab/x"+s+"y/c", "ab", "x.y", "c")
		default:
			mustSplit(t, s, s)
			mustSplit(t, "ab/x"+s+"y/c", "ab", "x"+s+"y", "c")
			mustSplit(t, "a/"+s+s+"/..", "a")
		}
	}
}

// split is Split another way: from the last part to the first, each `..` waiting for a name that it takes away.
func split(s string) ([]string, api.Errno) {
	if len(s) > 200 {
		return nil, api.ErrLong
	}
	var names []string
	waiting := 0
	for _, part := range slices.Backward(strings.Split(s, "/")) {
		switch {
		case part == "" || part == ".":
		case part == "..":
			waiting++
		case !right(part):
			return nil, api.ErrName
		case waiting > 0:
			waiting--
		default:
			names = append(names, part)
		}
	}
	slices.Reverse(names)
	return names, api.OK
}

// mustAgree holds Split and Clean against the other way.
func mustAgree(t *testing.T, s string) {
	t.Helper()
	names, why := split(s)
	if why != api.OK {
		mustNotSplit(t, s, why)
		return
	}
	mustSplit(t, s, names...)
}

func TestSplitOfAllShortTexts(t *testing.T) {
	eachText("/.a\x00", 8, func(s string) { mustAgree(t, s) })
}

func TestSplitOfManyTexts(t *testing.T) {
	r := rand.New(rand.NewSource(2))
	for range 50000 {
		mustAgree(t, someText(r))
	}
}

// TestSplitOfAnyBytes: whatever it is given, each call ends.
func TestSplitOfAnyBytes(t *testing.T) {
	r := rand.New(rand.NewSource(3))
	for range 50000 {
		b := make([]byte, r.Intn(220))
		r.Read(b)
		for range r.Intn(30) {
			if len(b) > 0 {
				b[r.Intn(len(b))] = "/."[r.Intn(2)]
			}
		}
		mustAgree(t, string(b))
	}
}
