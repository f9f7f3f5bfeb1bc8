package tree_test

import (
	"fmt"
	"hash/fnv"
	"math"
	"slices"
	"strings"
	"testing"

	"strongroom/api"
	"strongroom/tree"
)

// longest and tooLong are the texts on both sides of the bound of names.
var (
	longest = strings.Repeat("n", 30)
	tooLong = strings.Repeat("n", 31)
)

// files is what may be asked of a tree, and of the model that is held against it.
type files interface {
	Look(p []string) (int, api.Errno)
	Make(p []string, dir bool) (int, api.Errno)
	Remove(p []string, dir bool) api.Errno
	Rename(from, to []string) api.Errno
	Read(id int, at uint64, n uint32) ([]byte, api.Errno)
	Write(id int, at uint64, b []byte) api.Errno
	Attrs(id int) (api.Attrs, api.Errno)
	Set(id int, by api.Attrs) api.Errno
	List(id int) ([]api.Name, api.Errno)
	Dir(id int) bool
	Count() int
	Bytes() int
}

// of is the path whose names are parted by strokes in s.
func of(s string) []string {
	if s == "" {
		return nil
	}
	return strings.Split(s, "/")
}

// filled makes a tree of what stands in all, which are numbered from 1 on: a directory ends with a stroke, a file may have its bytes behind an equals sign.
func filled(t *testing.T, all ...string) *tree.Tree {
	t.Helper()
	x := tree.New()
	for i, s := range all {
		where, data, _ := strings.Cut(s, "=")
		name, dir := strings.CutSuffix(where, "/")
		mustMake(t, x, name, dir, i+1)
		if data != "" {
			mustWrite(t, x, i+1, 0, data)
		}
	}
	return x
}

// tell has all that the calls tell of things up to that number.
func tell(s files, most int) string {
	var out strings.Builder
	fmt.Fprintln(&out, s.Count(), "things,", s.Bytes(), "bytes")
	for id := -1; id <= most; id++ {
		a, why := s.Attrs(id)
		l, no := s.List(id)
		fmt.Fprintln(&out, id, s.Dir(id), a, why, l, no, tellBytes(s, id))
	}
	tellUnder(&out, s, nil)
	return out.String()
}

func tellBytes(s files, id int) string {
	sum, at := fnv.New64a(), uint64(0)
	for {
		b, why := s.Read(id, at, math.MaxUint32)
		if why != api.OK {
			return fmt.Sprintf("%d bytes, %x, %v", at, sum.Sum64(), why)
		}
		sum.Write(b)
		at += uint64(len(b))
	}
}

// tellUnder tells the number of each path, as List leads from one to the next.
func tellUnder(out *strings.Builder, s files, p []string) {
	id, why := s.Look(p)
	fmt.Fprintf(out, "%q %d %v\n", p, id, why)
	l, _ := s.List(id)
	for _, n := range l {
		tellUnder(out, s, append(slices.Clone(p), n.Name))
	}
}

// nextOf is the number that the next thing of x will have, or would have if x were not full. It is asked of another tree, so that x has no more things than ahead.
func nextOf(t *testing.T, x *tree.Tree) int {
	t.Helper()
	y, why := tree.Load(x.Save())
	if why != api.OK {
		t.Fatalf("P15.4: Load of what Save gave: %v", why)
	}
	if y.Count() == api.MaxNodes {
		removeOne(t, y)
	}
	id, why := y.Make(of("a name that nothing has so far"), false)
	if why != api.OK {
		t.Fatalf("P15.1: Make behind Load: %v", why)
	}
	return id
}

// removeOne removes the first thing that holds nothing.
func removeOne(t *testing.T, x files) {
	t.Helper()
	var p []string
	for id := 0; ; {
		l, why := x.List(id)
		if len(l) == 0 {
			if why := x.Remove(p, why == api.OK); why != api.OK {
				t.Fatalf("P15.1: Remove(%q): %v", p, why)
			}
			return
		}
		p = append(p, l[0].Name)
		id, _ = x.Look(p)
	}
}

// mustRefuse holds what do answers against want, and what can be told of x ahead of it against what can be told behind it.
func mustRefuse(t *testing.T, x *tree.Tree, want api.Errno, what string, do func() api.Errno) {
	t.Helper()
	next := nextOf(t, x)
	before, saved := tell(x, next), string(x.Save())
	if why := do(); why != want {
		t.Errorf("%s: %v, want %v", what, why, want)
	}
	if behind := tell(x, next); behind != before || string(x.Save()) != saved || nextOf(t, x) != next {
		t.Errorf("R3: %s changed\n%sinto\n%s", what, before, behind)
	}
}

func mustLook(t *testing.T, x files, p string, want int) {
	t.Helper()
	if id, why := x.Look(of(p)); id != want || why != api.OK {
		t.Errorf("P15.1: Look(%.99q): %d, %v; want %d", p, id, why, want)
	}
}

func mustNotLook(t *testing.T, x files, p ...string) {
	t.Helper()
	if id, why := x.Look(p); id != 0 || why != api.ErrNone {
		t.Errorf("P15.1: Look(%.99q): %d, %v; want %v", p, id, why, api.ErrNone)
	}
}

func mustMake(t *testing.T, x files, p string, dir bool, want int) {
	t.Helper()
	if id, why := x.Make(of(p), dir); id != want || why != api.OK {
		t.Fatalf("P15.1: Make(%.99q, %v): %d, %v; want %d", p, dir, id, why, want)
	}
}

func mustNotMake(t *testing.T, x *tree.Tree, want api.Errno, p ...string) {
	t.Helper()
	for _, dir := range []bool{false, true} {
		mustRefuse(t, x, want, fmt.Sprintf("P15.1: Make(%.99q, %v)", p, dir), func() api.Errno {
			id, why := x.Make(p, dir)
			if id != 0 {
				t.Errorf("R3: Make(%.99q, %v): %d beside %v", p, dir, id, why)
			}
			return why
		})
	}
}

func mustRemove(t *testing.T, x files, p string, dir bool) {
	t.Helper()
	if why := x.Remove(of(p), dir); why != api.OK {
		t.Fatalf("P15.1: Remove(%.99q, %v): %v", p, dir, why)
	}
}

func mustNotRemove(t *testing.T, x *tree.Tree, want api.Errno, dir bool, p ...string) {
	t.Helper()
	mustRefuse(t, x, want, fmt.Sprintf("P15.1: Remove(%.99q, %v)", p, dir), func() api.Errno { return x.Remove(p, dir) })
}

func mustRename(t *testing.T, x files, from, to string) {
	t.Helper()
	if why := x.Rename(of(from), of(to)); why != api.OK {
		t.Fatalf("P15.1: Rename(%.99q, %.99q): %v", from, to, why)
	}
}

func mustNotRename(t *testing.T, x *tree.Tree, want api.Errno, from, to string) {
	t.Helper()
	mustRefuse(t, x, want, fmt.Sprintf("P15.1: Rename(%.99q, %.99q)", from, to), func() api.Errno { return x.Rename(of(from), of(to)) })
}

func mustRead(t *testing.T, x files, id int, at uint64, n uint32, want string) {
	t.Helper()
	if b, why := x.Read(id, at, n); string(b) != want || why != api.OK {
		t.Errorf("P15.2: Read(%d, %d, %d): %.99q of %d bytes, %v; want %.99q", id, at, n, b, len(b), why, want)
	}
}

func mustNotRead(t *testing.T, x *tree.Tree, want api.Errno, id int, at uint64, n uint32) {
	t.Helper()
	mustRefuse(t, x, want, fmt.Sprintf("P15.2: Read(%d, %d, %d)", id, at, n), func() api.Errno {
		b, why := x.Read(id, at, n)
		if len(b) != 0 {
			t.Errorf("R3: Read(%d, %d, %d): %.99q beside %v", id, at, n, b, why)
		}
		return why
	})
}

func mustWrite(t *testing.T, x files, id int, at uint64, s string) {
	t.Helper()
	if why := x.Write(id, at, []byte(s)); why != api.OK {
		t.Fatalf("P15.2: Write(%d, %d, %d bytes): %v", id, at, len(s), why)
	}
}

func mustNotWrite(t *testing.T, x *tree.Tree, want api.Errno, id int, at uint64, s string) {
	t.Helper()
	mustRefuse(t, x, want, fmt.Sprintf("P15.2: Write(%d, %d, %d bytes)", id, at, len(s)), func() api.Errno { return x.Write(id, at, []byte(s)) })
}

func mustSet(t *testing.T, x files, id int, by api.Attrs) {
	t.Helper()
	if why := x.Set(id, by); why != api.OK {
		t.Fatalf("P15.3: Set(%d, %+v): %v", id, by, why)
	}
}

func mustNotSet(t *testing.T, x *tree.Tree, want api.Errno, id int, by api.Attrs) {
	t.Helper()
	mustRefuse(t, x, want, fmt.Sprintf("P15.3: Set(%d, %+v)", id, by), func() api.Errno { return x.Set(id, by) })
}

func mustHave(t *testing.T, x files, id int, want api.Attrs) {
	t.Helper()
	if a, why := x.Attrs(id); a != want || why != api.OK {
		t.Errorf("P15.3: Attrs(%d): %+v, %v; want %+v", id, a, why, want)
	}
}

// mustList holds names, sizes and modes against List's, as texts.
func mustList(t *testing.T, x files, id int, want string) {
	t.Helper()
	l, why := x.List(id)
	var all []string
	for _, n := range l {
		all = append(all, fmt.Sprintf("%s:%d:%d", n.Name, n.Attrs.Size, n.Attrs.Mode))
	}
	if got := strings.Join(all, " "); got != want || why != api.OK {
		t.Errorf("P15.3: List(%d): %q, %v; want %q", id, got, why, want)
	}
}

// mustCount holds Count and Bytes.
func mustCount(t *testing.T, x files, count, bytes int) {
	t.Helper()
	if x.Count() != count || x.Bytes() != bytes {
		t.Errorf("P15.3: %d things, %d bytes; want %d, %d", x.Count(), x.Bytes(), count, bytes)
	}
}

func sized(n uint64) api.Attrs { return api.Attrs{Flags: 1, Size: n} }

// first are the attributes of a new file, and of a new directory.
func first(dir bool) api.Attrs {
	if dir {
		return api.Attrs{Flags: 15, Mode: 16877}
	}
	return api.Attrs{Flags: 15, Mode: 33188}
}
