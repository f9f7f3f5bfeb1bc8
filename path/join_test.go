package path_test

import (
	"math/rand"
	"slices"
	"strings"
	"testing"

	"strongroom/path"
)

func mustJoin(t *testing.T, want string, names ...string) {
	t.Helper()
	if got := path.Join(names); got != want {
		t.Errorf("P13.1: Join(%.250q): %.250q, want %.250q", names, got, want)
	}
}

func TestJoin(t *testing.T) {
	mustJoin(t, "/")
	mustJoin(t, "/", []string{}...)
	mustJoin(t, "/a", "a")
	mustJoin(t, "/abc", "abc")
	mustJoin(t, "/a/b", "a", "b")
	mustJoin(t, "/b/a", "b", "a")
	mustJoin(t, "/a/a", "a", "a")
	mustJoin(t, "/a/bc/def", "a", "bc", "def")
	mustJoin(t, "/...", "...")
	mustJoin(t, "/\xff/\u00e9/ ", "\xff", "\u00e9", " ")
	mustJoin(t, "/"+longest+"/"+longest, longest, longest)
}

// TestJoinOfAnyNames: Join does not ask whether they are Right, nor how long the path is.
func TestJoinOfAnyNames(t *testing.T) {
	mustJoin(t, "/", "")
	mustJoin(t, "//", "", "")
	mustJoin(t, "//a", "", "a")
	mustJoin(t, "/a/", "a", "")
	mustJoin(t, "/a//b", "a", "", "b")
	mustJoin(t, "/.", ".")
	mustJoin(t, "/..", "..")
	mustJoin(t, "/a/../b/.", "a", "..", "b", ".")
	mustJoin(t, "//", "/")
	mustJoin(t, "/a/b/c", "a/b", "c")
	mustJoin(t, "//a//b", "/a", "/b")
	mustJoin(t, "/\x00/a\x00b", "\x00", "a\x00b")
	mustJoin(t, "/"+tooLong, tooLong)
	long := strings.Repeat("x", 1<<20)
	mustJoin(t, "/"+long+"/a/"+long, long, "a", long)
	for _, n := range []int{99, 100, 101, 200, 201, 1000, 1 << 16} {
		mustJoin(t, strings.Repeat("/a", n), slices.Repeat([]string{"a"}, n)...)
		mustJoin(t, strings.Repeat("/", n), make([]string, n)...)
	}
}

func TestJoinOfEachByte(t *testing.T) {
	for b := range 256 {
		s := string([]byte{byte(b)})
		mustJoin(t, "/"+s, s)
		mustJoin(t, "/a"+s+"/"+s+"/"+s+"b", "a"+s, s, s+"b")
	}
}

// TestJoinOfManyLists: what Join made is taken apart again at the strokes that it put there.
func TestJoinOfManyLists(t *testing.T) {
	r := rand.New(rand.NewSource(4))
	for range 5000 {
		names := make([]string, 1+r.Intn(20))
		for i := range names {
			b := make([]byte, r.Intn(40))
			r.Read(b)
			names[i] = string(b)
		}
		left := path.Join(names)
		for _, name := range names {
			behind, ok := strings.CutPrefix(left, "/"+name)
			if !ok {
				t.Fatalf("P13.1: Join(%q): %q", names, path.Join(names))
			}
			left = behind
		}
		if left != "" {
			t.Fatalf("P13.1: Join(%q): %q, with %q behind", names, path.Join(names), left)
		}
	}
}

// TestJoinOfSplit: names that may be are split as they were joined.
func TestJoinOfSplit(t *testing.T) {
	r := rand.New(rand.NewSource(5))
	for range 20000 {
		var names []string
		length := 0
		for len(names) < r.Intn(12) {
			names = append(names, []string{"a", "bc", "...", ".a", "\xff", " ", longest}[r.Intn(7)])
			length += 1 + len(names[len(names)-1])
		}
		if length > 200 {
			continue
		}
		mustSplit(t, path.Join(names), names...)
	}
}
