package tree_test

import (
	"testing"

	"strongroom/api"
)

// TestRenameWithAllItHolds: numbers, bytes and attributes go along, and nothing stays where it was.
func TestRenameWithAllItHolds(t *testing.T) {
	x := filled(t, "a/", "a/b/", "a/b/c=see", "a/f=eff", "z/")
	told := api.Attrs{Flags: 15, Size: 3, Uid: 1, Gid: 2, Mode: 3, Atime: 4, Mtime: 5}
	mustSet(t, x, 3, told)
	mustRename(t, x, "a", "z/q")
	mustNotLook(t, x, "a")
	mustNotLook(t, x, "a", "b", "c")
	for p, id := range map[string]int{"z": 5, "z/q": 1, "z/q/b": 2, "z/q/b/c": 3, "z/q/f": 4} {
		mustLook(t, x, p, id)
	}
	mustRead(t, x, 3, 0, 9, "see")
	mustHave(t, x, 3, told)
	mustList(t, x, 0, "z:0:16877")
	mustList(t, x, 5, "q:0:16877")
	mustList(t, x, 1, "b:0:16877 f:3:33188")
	mustCount(t, x, 6, 6)
	mustRename(t, x, "z/q/b", "b")
	mustRename(t, x, "z", "b/z")
	mustLook(t, x, "b/z/q/f", 4)
	mustLook(t, x, "b/c", 3)
	mustList(t, x, 0, "b:0:16877")
	if next := nextOf(t, x); next != 6 {
		t.Errorf("P15.1: the next number behind Rename: %d", next)
	}
}

// TestRenameInOneDirectory: from each place among the names to each other one.
func TestRenameInOneDirectory(t *testing.T) {
	for _, to := range []string{"a", "bb", "cc", "dd", "e"} {
		for id, from := range []string{"b", "c", "d"} {
			x := filled(t, "b=1", "c=22", "d=333")
			mustRename(t, x, from, to)
			mustNotLook(t, x, from)
			mustLook(t, x, to, id+1)
			l, _ := x.List(0)
			for i := 1; i < len(l); i++ {
				if l[i-1].Name >= l[i].Name {
					t.Errorf("P15.3: %q to %q: %v", from, to, l)
				}
			}
			mustCount(t, x, 4, 6)
		}
	}
}

func TestRenameToNamesAtTheirBounds(t *testing.T) {
	x := filled(t, "f", "d/")
	mustRename(t, x, "f", longest)
	mustRename(t, x, longest, "d/"+longest)
	mustRename(t, x, "d/"+longest, "...")
	mustLook(t, x, "...", 1)
	mustRename(t, x, "...", "d/ ")
	mustRename(t, x, "d/ ", "f")
	mustLook(t, x, "f", 1)
}

func TestRenameOfTheRoot(t *testing.T) {
	x := filled(t, "d/", "f")
	for _, p := range []string{"", "d", "f", "z", "z/z", "d/f", "f/f", tooLong, "."} {
		mustNotRename(t, x, api.ErrArg, "", p)
		mustNotRename(t, x, api.ErrArg, p, "")
	}
	if why := x.Rename([]string{}, []string{}); why != api.ErrArg {
		t.Errorf("R4: Rename of empty lists: %v", why)
	}
}

// TestRenameOfNothing: it is asked ahead of all that may be wrong with to.
func TestRenameOfNothing(t *testing.T) {
	x := filled(t, "d/", "d/f", "g")
	for _, from := range []string{"z", "d/z", "z/f", "g/z", "d/f/z", ".", tooLong, "d/" + tooLong} {
		for _, to := range []string{"y", "d", "g", "d/y", tooLong, "d/.", "z/y", "g/y", from, from + "/y"} {
			mustNotRename(t, x, api.ErrNone, from, to)
		}
	}
}

func TestRenameToWrongNames(t *testing.T) {
	x := filled(t, "d/", "d/f", "g")
	for _, name := range wrongNames() {
		for _, to := range [][]string{{name}, {"d", name}, {"z", name}, {"g", name}, {"d", "f", name}, {"d", "z", name}} {
			for _, from := range []string{"d", "d/f", "g"} {
				mustRefuse(t, x, api.ErrName, "P15.1: Rename to a wrong name", func() api.Errno { return x.Rename(of(from), to) })
			}
		}
	}
}

// TestRenameRefuses: of what should hold to, of what is there, and into itself, in this order.
func TestRenameRefuses(t *testing.T) {
	x := filled(t, "a/", "a/b/", "a/f", "g", "h/")
	for _, from := range []string{"a", "a/b", "a/f", "g"} {
		mustNotRename(t, x, api.ErrNone, from, "z/y")
		mustNotRename(t, x, api.ErrNone, from, "a/z/y")
		mustNotRename(t, x, api.ErrNone, from, "a/b/z/y")
		mustNotRename(t, x, api.ErrNone, from, "g/z/y")
		mustNotRename(t, x, api.ErrKind, from, "g/y")
		mustNotRename(t, x, api.ErrKind, from, "a/f/y")
		for _, to := range []string{"a", "a/b", "a/f", "g", "h"} {
			mustNotRename(t, x, api.ErrTaken, from, to)
		}
	}
	mustNotRename(t, x, api.ErrArg, "a", "a/y")
	mustNotRename(t, x, api.ErrArg, "a", "a/a")
	mustNotRename(t, x, api.ErrArg, "a", "a/b/y")
	mustNotRename(t, x, api.ErrArg, "a/b", "a/b/y")
	mustNotRename(t, x, api.ErrArg, "a/b", "a/b/b")
	mustNotRename(t, x, api.ErrNone, "a", "a/y/y")
	mustRename(t, x, "a/b", "a/y")
	mustRename(t, x, "a/y", "h/b")
	mustNotRename(t, x, api.ErrArg, "h", "h/b/h")
}

// TestRenameBesideItself: a name that begins as another one, and the same names in another order, are no way.
func TestRenameBesideItself(t *testing.T) {
	x := filled(t, "a/", "aa/", "b/", "b/a/", "a/b/")
	mustRename(t, x, "a", "aa/a")
	mustRename(t, x, "aa/a", "b/a/a")
	mustRename(t, x, "b/a", "aa/b")
	mustLook(t, x, "aa/b/a/b", 5)
	mustNotRename(t, x, api.ErrArg, "aa", "aa/b/a/b/aa")
}

// TestRenameWhereNothingMoreMayBe: no thing comes to be.
func TestRenameWhereNothingMoreMayBe(t *testing.T) {
	x := crowd(t)
	mustRename(t, x, "d/f", "f")
	mustRename(t, x, "d", "n4/d")
	mustLook(t, x, "n4/d", 1)
	mustCount(t, x, 200, 0)
	mustLoadAgain(t, x)
}
