package path_test

import (
	"math/rand"
	gopath "path"
	"slices"
	"strings"
	"testing"

	"strongroom/api"
	"strongroom/path"
)

func mustClean(t *testing.T, s, want string) {
	t.Helper()
	if c, why := path.Clean(s); why != api.OK || c != want {
		t.Errorf("P13.1: Clean(%.250q): %q, %v; want %q", s, c, why, want)
	}
}

func TestClean(t *testing.T) {
	for s, want := range map[string]string{
		"": "/", "/": "/", "//": "/", ".": "/", "..": "/", "/..": "/", "/.": "/",
		"a": "/a", "/a": "/a", "a/": "/a", "a//b/../c": "/a/c", "a/b/c": "/a/b/c", "../../a": "/a", "a/../../b": "/b", "a/b/../..": "/",
		"...": "/...", "/a/.../..": "/a", " / ": "/ / ",
		longest: "/" + longest, longest + "/../" + longest: "/" + longest,
		"\xff/\u00e9": "/\xff/\u00e9",
	} {
		mustClean(t, s, want)
	}
}

// TestCleanIsJoinOfSplit: refusals too.
func TestCleanIsJoinOfSplit(t *testing.T) {
	r := rand.New(rand.NewSource(6))
	for range 30000 {
		s := someText(r)
		c, why := path.Clean(s)
		names, no := path.Split(s)
		want := ""
		if no == api.OK {
			want = path.Join(names)
		}
		if c != want || why != no {
			t.Errorf("P13.1: Clean(%q): %q, %v; want %q, %v", s, c, why, want, no)
		}
	}
}

// TestCleanAsGo: where nothing is refused, Go's own library cleans a path from the root on likewise.
func TestCleanAsGo(t *testing.T) {
	eachText("/.ab", 8, func(s string) { mustClean(t, s, gopath.Clean("/"+s)) })
	r := rand.New(rand.NewSource(7))
	for range 30000 {
		s := someText(r)
		if _, why := split(s); why == api.OK {
			mustClean(t, s, gopath.Clean("/"+s))
		}
	}
}

// mustStay holds Clean of what Clean answered against it, as long as that may be split.
func mustStay(t *testing.T, s string) {
	t.Helper()
	c, why := path.Clean(s)
	if why != api.OK {
		return
	}
	again, why := path.Clean(c)
	if len(c) > 200 {
		if again != "" || why != api.ErrLong {
			t.Errorf("P13.1: Clean of Clean(%q), of %d bytes: %q, %v", s, len(c), again, why)
		}
		return
	}
	if again != c || why != api.OK {
		t.Errorf("P13.2: Clean of Clean(%q): %q, %v; want %q", s, again, why, c)
	}
}

func TestCleanOfClean(t *testing.T) {
	for _, s := range []string{"", "/", "a//b/../c", "/..", "../../a", "a/.", "./a/", "...", ".a/..b/c..", longest, longest + "/" + longest, strings.Repeat("/", 200), strings.Repeat("/a", 100), strings.Repeat("a/", 100)} {
		mustStay(t, s)
	}
	eachText("/.a", 9, func(s string) { mustStay(t, s) })
	r := rand.New(rand.NewSource(8))
	for range 30000 {
		mustStay(t, someText(r))
	}
}

// TestCleanOfLongest: without a stroke ahead a path of 200 bytes is cleaned to one of 201, which is then too long.
func TestCleanOfLongest(t *testing.T) {
	long := strings.Repeat(longest+"/", 6) + strings.Repeat("m", 14)
	mustClean(t, long, "/"+long)
	mustNotSplit(t, "/"+long, api.ErrLong)
	mustClean(t, "/"+long[:199], "/"+long[:199])
	mustClean(t, long[:199], "/"+long[:199])
	mustClean(t, "/./"+long[:197], "/"+long[:197])
	mustStay(t, long)
	mustStay(t, long[:199])
}

// TestCleanOfOneBehindAnother: a path that is walked behind another one may start at what the first was cleaned to.
func TestCleanOfOneBehindAnother(t *testing.T) {
	for _, c := range []struct{ first, second, want string }{
		{"", "", "/"}, {"a", "", "/a"}, {"", "a", "/a"}, {"a", "b", "/a/b"}, {"/a", "/b", "/a/b"}, {"a/", "/b/", "/a/b"},
		{"a/b", "..", "/a"}, {"a/b", "../c", "/a/c"}, {"a/b", "../../..", "/"}, {"a", "../../b", "/b"}, {"..", "a", "/a"}, {"a/..", "..", "/"}, {"../a", "../b", "/b"}, {".", ".", "/"},
	} {
		mustClean(t, c.first+"/"+c.second, c.want)
	}
	r := rand.New(rand.NewSource(9))
	for range 30000 {
		first, second := someText(r), someText(r)
		start, why := path.Clean(first)
		whole, wrong := path.Clean(first + "/" + second)
		if why != api.OK || wrong != api.OK {
			continue
		}
		if c, why := path.Clean(start + "/" + second); len(start+"/"+second) <= 200 && (c != whole || why != api.OK) {
			t.Errorf("P13.1: Clean(%q) behind %q: %q, %v; want %q", second, start, c, why, whole)
		}
	}
}

// TestCleanAnswersRightNames: between the strokes of what it answers, there are names alone.
func TestCleanAnswersRightNames(t *testing.T) {
	r := rand.New(rand.NewSource(10))
	for range 30000 {
		s := someText(r)
		c, why := path.Clean(s)
		if why != api.OK || c == "/" {
			continue
		}
		names, ok := strings.CutPrefix(c, "/")
		if !ok || slices.ContainsFunc(strings.Split(names, "/"), func(name string) bool { return !path.Right(name) }) {
			t.Errorf("P13.1: Clean(%q): %q", s, c)
		}
	}
}
