package tree_test

import (
	"fmt"
	"slices"
	"strings"
	"testing"

	"strongroom/api"
	"strongroom/tree"
)

// TestRun is the run of the chapter.
func TestRun(t *testing.T) {
	x := tree.New()
	mustMake(t, x, "a", true, 1)
	mustMake(t, x, "a/b", false, 2)
	mustNotRemove(t, x, api.ErrUsed, true, "a")
}

func TestNew(t *testing.T) {
	x := tree.New()
	mustLook(t, x, "", 0)
	mustNotLook(t, x, "a")
	mustList(t, x, 0, "")
	mustCount(t, x, 1, 0)
	mustHave(t, x, 0, first(true))
	if next := nextOf(t, x); next != 1 {
		t.Errorf("P15.1: the first thing's number: %d", next)
	}
	if id, why := x.Look([]string{}); id != 0 || why != api.OK {
		t.Errorf("R4: Look of an empty list: %d, %v", id, why)
	}
}

func TestLook(t *testing.T) {
	x := filled(t, "a/", "a/b/", "a/b/c=see", "f", "a/f/")
	for p, id := range map[string]int{"": 0, "a": 1, "a/b": 2, "a/b/c": 3, "f": 4, "a/f": 5} {
		mustLook(t, x, p, id)
	}
	for _, p := range []string{"b", "a/a", "a/b/b", "a/b/c/c", "f/a", "f/f", "f/a/b", "z", "z/a", "a/z/b", "a/b/c/d/e", "A", "a ", " a", "aa"} {
		mustNotLook(t, x, of(p)...)
	}
	for _, name := range wrongNames() {
		mustNotLook(t, x, name)
		mustNotLook(t, x, "a", name)
		mustNotLook(t, x, name, "a")
		mustNotLook(t, x, "a", name, "b")
		mustNotLook(t, x, "f", name)
	}
}

// wrongNames are not Right; of dots and strokes a path by names alone knows nothing.
func wrongNames() []string {
	return []string{"", ".", "..", "/", "a/b", "/a", "a/", "a/b/c", "\x00", "a\x00", "\x00a", "a\x00b", "./", "a/..", tooLong, strings.Repeat("x", 1000)}
}

func TestMake(t *testing.T) {
	x := tree.New()
	mustMake(t, x, "d", true, 1)
	mustMake(t, x, "f", false, 2)
	mustMake(t, x, "d/d", true, 3)
	mustMake(t, x, "d/f", false, 4)
	mustMake(t, x, "d/d/d", true, 5)
	mustMake(t, x, "d/d/"+longest, false, 6)
	for id, dir := range []bool{true, true, false, true, false, true, false} {
		mustHave(t, x, id, first(dir))
		if x.Dir(id) != dir {
			t.Errorf("P15.1: Dir(%d): %v", id, x.Dir(id))
		}
		if !dir {
			mustNotRead(t, x, api.ErrEnd, id, 0, 1)
		} else if l, why := x.List(5); len(l) != 0 || why != api.OK {
			t.Errorf("P15.1: a new directory has %v, %v", l, why)
		}
	}
	mustLook(t, x, "d/d/"+longest, 6)
	mustCount(t, x, 7, 0)
}

// TestMakeOfEachName: a byte of each kind, and each length.
func TestMakeOfEachName(t *testing.T) {
	for b := range 256 {
		name := "x" + string([]byte{byte(b)})
		x := tree.New()
		if b == 0 || b == '/' {
			mustNotMake(t, x, api.ErrName, name)
			continue
		}
		if id, why := x.Make([]string{name}, false); id != 1 || why != api.OK {
			t.Errorf("P15.1: Make(%q): %d, %v", name, id, why)
		}
	}
	for _, name := range []string{"a", "...", " ", ".a", "a.", "..a", longest, "caf\u00e9", "\xff\xfe", strings.Repeat(".", 30)} {
		x := filled(t, "d/")
		mustMake(t, x, name, true, 2)
		mustMake(t, x, "d/"+name, false, 3)
		mustLook(t, x, name, 2)
		mustLook(t, x, "d/"+name, 3)
	}
}

func TestMakeRefuses(t *testing.T) {
	x := filled(t, "d/", "d/f", "d/e/")
	mustNotMake(t, x, api.ErrArg)
	mustNotMake(t, x, api.ErrArg, []string{}...)
	for _, name := range wrongNames() {
		mustNotMake(t, x, api.ErrName, name)
		mustNotMake(t, x, api.ErrName, "d", name)
		mustNotMake(t, x, api.ErrName, "z", name)
		mustNotMake(t, x, api.ErrName, "d", "f", name)
		mustNotMake(t, x, api.ErrName, "d", "f", "z", name)
		mustNotMake(t, x, api.ErrNone, name, "a")
		mustNotMake(t, x, api.ErrNone, "d", name, "a")
	}
	mustNotMake(t, x, api.ErrNone, "z", "a")
	mustNotMake(t, x, api.ErrNone, "d", "z", "a")
	mustNotMake(t, x, api.ErrNone, "d", "f", "a", "b")
	mustNotMake(t, x, api.ErrKind, "d", "f", "a")
	mustNotMake(t, x, api.ErrTaken, "d")
	mustNotMake(t, x, api.ErrTaken, "d", "f")
	mustNotMake(t, x, api.ErrTaken, "d", "e")
	mustMake(t, x, "d/e/a", false, 4)
}

// crowd has MaxNodes things: d, which is 1, f in it, and more in the root.
func crowd(t *testing.T) *tree.Tree {
	t.Helper()
	x := filled(t, "d/", "d/f")
	for id := 3; id < 200; id++ {
		mustMake(t, x, fmt.Sprint("n", id), id%2 == 0, id)
	}
	mustCount(t, x, 200, 0)
	return x
}

func TestMakeOfOneTooMany(t *testing.T) {
	x := crowd(t)
	mustNotMake(t, x, api.ErrFull, "more")
	mustNotMake(t, x, api.ErrFull, "d", "more")
	mustNotMake(t, x, api.ErrFull, "n4", "more")
	mustNotMake(t, x, api.ErrArg)
	mustNotMake(t, x, api.ErrName, tooLong)
	mustNotMake(t, x, api.ErrNone, "z", "more")
	mustNotMake(t, x, api.ErrKind, "d", "f", "more")
	mustNotMake(t, x, api.ErrTaken, "d", "f")
	mustRename(t, x, "n5", "d/n5")
	mustNotMake(t, x, api.ErrFull, "more")
	mustRemove(t, x, "d/n5", false)
	mustMake(t, x, "more", true, 200)
	mustNotMake(t, x, api.ErrFull, "again")
}

// TestMakeUnderOneAnother: a path may be as long as there are things.
func TestMakeUnderOneAnother(t *testing.T) {
	x := tree.New()
	var p []string
	for id := 1; id < 200; id++ {
		p = append(p, longest)
		if got, why := x.Make(p, true); got != id || why != api.OK {
			t.Fatalf("P15.1: Make of %d names: %d, %v", id, got, why)
		}
	}
	for n := range 200 {
		if id, why := x.Look(p[:n]); id != n || why != api.OK {
			t.Errorf("P15.1: Look of %d names: %d, %v", n, id, why)
		}
	}
	mustNotLook(t, x, append(p, longest)...)
	mustNotMake(t, x, api.ErrFull, append(slices.Clone(p), longest)...)
	mustLoadAgain(t, x)
	for n := 199; n > 0; n-- {
		if why := x.Remove(p[:n], true); why != api.OK {
			t.Fatalf("P15.1: Remove of %d names: %v", n, why)
		}
	}
	mustCount(t, x, 1, 0)
}

// TestNumbersNeverComeAgain: behind Remove, behind a refusal, behind Load.
func TestNumbersNeverComeAgain(t *testing.T) {
	x := tree.New()
	for id := 1; id < 600; id++ {
		mustMake(t, x, "a", id%3 == 0, id)
		if id%7 == 0 {
			x.Make(of("a"), true)
			x.Make(of(tooLong), true)
			x.Make(of("z/a"), true)
		}
		mustRemove(t, x, "a", id%3 == 0)
		mustNotLook(t, x, "a")
		if _, why := x.Attrs(id); why != api.ErrNone {
			t.Errorf("P15.1: a thing that is gone: %v", why)
		}
		if id%5 == 0 {
			x = mustLoadAgain(t, x)
		}
	}
	mustCount(t, x, 1, 0)
}

func TestRemove(t *testing.T) {
	x := filled(t, "d/", "d/f=abc", "d/e/", "g=defg", "d/h")
	mustRemove(t, x, "d/f", false)
	mustNotLook(t, x, "d", "f")
	mustCount(t, x, 5, 4)
	mustRemove(t, x, "d/e", true)
	mustList(t, x, 1, "h:0:33188")
	mustRemove(t, x, "d/h", false)
	mustRemove(t, x, "d", true)
	mustCount(t, x, 2, 4)
	mustList(t, x, 0, "g:4:33188")
	mustMake(t, x, "d", false, 6)
	mustLook(t, x, "d", 6)
	mustLook(t, x, "g", 4)
}

func TestRemoveRefuses(t *testing.T) {
	x := filled(t, "d/", "d/f", "d/e/", "d/e/g")
	for _, dir := range []bool{false, true} {
		mustNotRemove(t, x, api.ErrArg, dir)
		mustNotRemove(t, x, api.ErrArg, dir, []string{}...)
		for _, p := range []string{"z", "z/f", "d/z", "d/f/z", "d/f/z/z"} {
			mustNotRemove(t, x, api.ErrNone, dir, of(p)...)
		}
		for _, name := range wrongNames() {
			mustNotRemove(t, x, api.ErrNone, dir, name)
			mustNotRemove(t, x, api.ErrNone, dir, "d", name)
			mustNotRemove(t, x, api.ErrNone, dir, name, "f")
		}
		mustNotRemove(t, tree.New(), api.ErrArg, dir)
	}
	mustNotRemove(t, x, api.ErrKind, true, "d", "f")
	mustNotRemove(t, x, api.ErrKind, false, "d", "e")
	mustNotRemove(t, x, api.ErrKind, false, "d")
	mustNotRemove(t, x, api.ErrUsed, true, "d")
	mustNotRemove(t, x, api.ErrUsed, true, "d", "e")
	mustRemove(t, x, "d/e/g", false)
	mustNotRemove(t, x, api.ErrKind, false, "d", "e")
	mustRemove(t, x, "d/e", true)
}
