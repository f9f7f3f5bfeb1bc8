package tree_test

import (
	"math"
	"strings"
	"testing"

	"strongroom/api"
	"strongroom/tree"
)

// told answers what Flags tell of numbers that are all others, and 0 of the rest.
func told(flags uint32) api.Attrs {
	a := api.Attrs{Flags: flags}
	if flags&1 != 0 {
		a.Size = 5
	}
	if flags&2 != 0 {
		a.Uid, a.Gid = math.MaxUint32, 12
	}
	if flags&4 != 0 {
		a.Mode = 13
	}
	if flags&8 != 0 {
		a.Atime, a.Mtime = 14, math.MaxUint32-1
	}
	return a
}

// with answers a with what Flags tell of told.
func with(a api.Attrs, flags uint32) api.Attrs {
	by := told(flags)
	if flags&1 != 0 {
		a.Size = by.Size
	}
	if flags&2 != 0 {
		a.Uid, a.Gid = by.Uid, by.Gid
	}
	if flags&4 != 0 {
		a.Mode = by.Mode
	}
	if flags&8 != 0 {
		a.Atime, a.Mtime = by.Atime, by.Mtime
	}
	return a
}

// TestSetOfEachFlags: of a file, of a directory, of the root, and of two calls one behind the other.
func TestSetOfEachFlags(t *testing.T) {
	for flags := range uint32(16) {
		x := filled(t, "f=eff", "d/", "g=gee", "d/e/")
		mustSet(t, x, 1, told(flags))
		want := with(api.Attrs{Flags: 15, Size: 3, Mode: 33188}, flags)
		mustHave(t, x, 1, want)
		mustHave(t, x, 3, api.Attrs{Flags: 15, Size: 3, Mode: 33188})
		for _, id := range []int{0, 2, 4} {
			if flags&1 != 0 {
				mustNotSet(t, x, api.ErrKind, id, told(flags))
				continue
			}
			mustSet(t, x, id, told(flags))
			mustHave(t, x, id, with(first(true), flags))
		}
		for again := range uint32(16) {
			y := mustLoadAgain(t, x)
			mustSet(t, y, 1, told(again))
			mustHave(t, y, 1, with(want, again))
			mustSet(t, y, 1, api.Attrs{Flags: again})
			mustHave(t, y, 1, zeroed(with(want, again), again))
		}
	}
}

// zeroed answers a with noughts where Flags tell.
func zeroed(a api.Attrs, flags uint32) api.Attrs {
	if flags&1 != 0 {
		a.Size = 0
	}
	if flags&2 != 0 {
		a.Uid, a.Gid = 0, 0
	}
	if flags&4 != 0 {
		a.Mode = 0
	}
	if flags&8 != 0 {
		a.Atime, a.Mtime = 0, 0
	}
	return a
}

// wrongAttrs are not Right, in each way.
func wrongAttrs() []api.Attrs {
	return []api.Attrs{
		{Flags: 16}, {Flags: 17, Size: 1}, {Flags: 31}, {Flags: 1 << 31}, {Flags: math.MaxUint32},
		{Size: 1}, {Flags: 14, Size: 1 << 40}, {Uid: 1}, {Flags: 13, Uid: 1}, {Gid: 1}, {Flags: 13, Gid: 1}, {Mode: 1}, {Flags: 11, Mode: 1},
		{Atime: 1}, {Flags: 7, Atime: 1}, {Mtime: 1}, {Flags: 7, Mtime: 1}, {Flags: 1, Size: 1 << 40, Mode: 1}, {Flags: 1, Size: 2, Mode: 1},
	}
}

// TestSetRefuses: where several refusals apply, the first one.
func TestSetRefuses(t *testing.T) {
	x := fewFiles(t)
	for _, wrong := range wrongAttrs() {
		for id := range 3 {
			mustNotSet(t, x, api.ErrArg, id, wrong)
		}
		for _, id := range []int{3, 4, -1} {
			mustNotSet(t, x, api.ErrNone, id, wrong)
		}
	}
	for _, size := range []uint64{0, 1, 1 << 20, 1<<20 + 1, 1 << 32, 1 << 63, math.MaxUint64} {
		mustNotSet(t, x, api.ErrKind, 0, sized(size))
		mustNotSet(t, x, api.ErrKind, 1, sized(size))
		mustNotSet(t, x, api.ErrKind, 1, api.Attrs{Flags: 15, Size: size, Uid: 1, Gid: 2, Mode: 3, Atime: 4, Mtime: 5})
		mustNotSet(t, x, api.ErrNone, 3, sized(size))
		if size > 1<<20 {
			mustNotSet(t, x, api.ErrLong, 2, sized(size))
			mustNotSet(t, x, api.ErrLong, 2, api.Attrs{Flags: 15, Size: size, Uid: 1, Gid: 2, Mode: 3, Atime: 4, Mtime: 5})
		}
	}
}

// TestSetOfASize: cuts off and adds noughts, and what was cut off does not come again.
func TestSetOfASize(t *testing.T) {
	x := filled(t, "a=beside", "f=0123456789", "z=beside")
	for _, c := range []struct {
		size uint64
		want string
	}{{10, "0123456789"}, {7, "0123456"}, {8, "0123456\x00"}, {10, "0123456\x00\x00\x00"}, {1, "0"}, {0, ""}, {3, "\x00\x00\x00"}, {0, ""}, {0, ""}} {
		mustSet(t, x, 2, sized(c.size))
		mustHave(t, x, 2, api.Attrs{Flags: 15, Size: c.size, Mode: 33188})
		mustCount(t, x, 4, 12+int(c.size))
		if c.size > 0 {
			mustRead(t, x, 2, 0, 99, c.want)
		}
		mustNotRead(t, x, api.ErrEnd, 2, c.size, 99)
	}
	mustRead(t, x, 1, 0, 99, "beside")
	mustRead(t, x, 3, 0, 99, "beside")
	mustWrite(t, x, 2, 2, "x")
	mustRead(t, x, 2, 0, 99, "\x00\x00x")
}

// TestWriteBehindACut: noughts stand between, not what was there once.
func TestWriteBehindACut(t *testing.T) {
	for size := range uint64(10) {
		for at := range uint64(15) {
			x := filled(t, "f=0123456789")
			mustSet(t, x, 1, sized(size))
			mustWrite(t, x, 1, at, "x")
			want := []byte("0123456789"[:size] + strings.Repeat("\x00", 15))
			want[at] = 'x'
			mustRead(t, x, 1, 0, 99, string(want[:max(size, at+1)]))
		}
	}
}

func TestSetOfASizeAtMost(t *testing.T) {
	const most = 1 << 20
	x := filled(t, "f", "g", "h=abc")
	mustNotSet(t, x, api.ErrLong, 1, sized(most+1))
	mustNotSet(t, x, api.ErrFull, 1, sized(most-2))
	mustNotSet(t, x, api.ErrFull, 1, sized(most))
	mustSet(t, x, 1, sized(most-3))
	mustCount(t, x, 4, most)
	mustNotSet(t, x, api.ErrFull, 2, sized(1))
	mustNotSet(t, x, api.ErrFull, 3, sized(4))
	mustNotSet(t, x, api.ErrFull, 3, api.Attrs{Flags: 5, Size: 4, Mode: 1})
	mustNotSet(t, x, api.ErrFull, 1, sized(most-2))
	mustNotSet(t, x, api.ErrLong, 2, sized(most+1))
	mustNotSet(t, x, api.ErrArg, 2, api.Attrs{Flags: 1, Size: most, Uid: 1})
	mustSet(t, x, 1, sized(most-3))
	mustSet(t, x, 2, sized(0))
	mustSet(t, x, 3, sized(2))
	mustSet(t, x, 2, sized(1))
	mustCount(t, x, 4, most)
	mustLoadAgain(t, x)
	mustSet(t, x, 1, sized(0))
	mustRemove(t, x, "g", false)
	mustRemove(t, x, "h", false)
	mustSet(t, x, 1, sized(most))
	mustCount(t, x, 2, most)
	mustRead(t, x, 1, most-2, 9, "\x00\x00")
	mustLoadAgain(t, x)
}

// TestAttrsStayWhereNothingTellsThem: Write changes a Size alone, and a directory's Size is 0 whatever it holds.
func TestAttrsStayWhereNothingTellsThem(t *testing.T) {
	x := filled(t, "d/", "d/f")
	mustSet(t, x, 2, told(14))
	mustSet(t, x, 1, told(14))
	mustWrite(t, x, 2, 3, "abc")
	mustHave(t, x, 2, api.Attrs{Flags: 15, Size: 6, Uid: math.MaxUint32, Gid: 12, Mode: 13, Atime: 14, Mtime: math.MaxUint32 - 1})
	mustHave(t, x, 1, with(first(true), 14))
	mustHave(t, x, 0, first(true))
	mustRename(t, x, "d/f", "g")
	mustMake(t, x, "d/h", true, 3)
	mustHave(t, x, 1, with(first(true), 14))
}

// TestNumbersOfNothing: each call that takes a number.
func TestNumbersOfNothing(t *testing.T) {
	x := fewFiles(t)
	for id, why := range noFiles() {
		if why != api.ErrNone {
			continue
		}
		mustNotSet(t, x, api.ErrNone, id, api.Attrs{})
		mustNotSet(t, x, api.ErrNone, id, told(15))
		mustRefuse(t, x, api.ErrNone, "P15.3: Attrs", func() api.Errno {
			a, why := x.Attrs(id)
			if a != (api.Attrs{}) {
				t.Errorf("R3: Attrs(%d): %+v beside %v", id, a, why)
			}
			return why
		})
		mustNotList(t, x, api.ErrNone, id)
		if x.Dir(id) {
			t.Errorf("P15.3: Dir(%d): true", id)
		}
	}
	mustNotList(t, x, api.ErrKind, 2)
}

func mustNotList(t *testing.T, x *tree.Tree, want api.Errno, id int) {
	t.Helper()
	mustRefuse(t, x, want, "P15.3: List", func() api.Errno {
		l, why := x.List(id)
		if len(l) != 0 {
			t.Errorf("R3: List(%d): %v beside %v", id, l, why)
		}
		return why
	})
}
