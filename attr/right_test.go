package attr_test

import (
	"math"
	"math/rand"
	"testing"

	"strongroom/api"
	"strongroom/attr"
)

func mustBeRight(t *testing.T, a api.Attrs, want bool) {
	t.Helper()
	if got := attr.Right(a); got != want {
		t.Errorf("P14.1: Right(%+v): %v", a, got)
	}
}

func TestRight(t *testing.T) {
	mustBeRight(t, api.Attrs{}, true)
	mustBeRight(t, api.Attrs{Flags: 4, Mode: 420}, true)
	mustBeRight(t, api.Attrs{Flags: 15, Mode: 33188}, true)
	mustBeRight(t, api.Attrs{Flags: 15, Size: 1, Uid: 2, Gid: 3, Mode: 4, Atime: 5, Mtime: 6}, true)
	mustBeRight(t, api.Attrs{Flags: 2, Gid: 7}, true)
	mustBeRight(t, api.Attrs{Flags: 8, Mtime: 7}, true)
	mustBeRight(t, api.Attrs{Mode: 420}, false)
	mustBeRight(t, api.Attrs{Flags: 2, Mode: 420}, false)
	mustBeRight(t, api.Attrs{Flags: 13, Uid: 1}, false)
	mustBeRight(t, api.Attrs{Flags: 7, Mtime: 1}, false)
	mustBeRight(t, api.Attrs{Flags: 16}, false)
	mustBeRight(t, api.Attrs{Flags: 1 << 31}, false)
	mustBeRight(t, api.Attrs{Flags: math.MaxUint32}, false)
}

// TestRightOfEachField: one field by itself, told by Flags or not.
func TestRightOfEachField(t *testing.T) {
	for flags := range uint32(16) {
		mustBeRight(t, api.Attrs{Flags: flags}, true)
		for _, f := range fields() {
			for _, n := range []uint64{1, 2, f.greatest()/2 + 1, f.greatest() - 1, f.greatest()} {
				a := api.Attrs{Flags: flags}
				f.set(&a, n)
				mustBeRight(t, a, f.tells(flags))
			}
		}
	}
}

// TestRightOfEachBit: each bit of each field counts by itself.
func TestRightOfEachBit(t *testing.T) {
	for flags := range uint32(16) {
		for _, f := range fields() {
			for bit := range 8 * f.length {
				a := api.Attrs{Flags: flags}
				f.set(&a, 1<<bit)
				mustBeRight(t, a, f.tells(flags))
			}
		}
	}
}

// TestRightOfOneTooMany: all that Flags tell is set, and one field that they do not tell.
func TestRightOfOneTooMany(t *testing.T) {
	for flags := range uint32(16) {
		for _, whole := range []api.Attrs{each(flags), filled(flags, func(field) uint64 { return 1 }), filled(flags, field.greatest)} {
			mustBeRight(t, toldOf(whole), true)
			mustBeRight(t, whole, flags == 15)
			for _, f := range fields() {
				a := toldOf(whole)
				f.set(&a, f.of(whole))
				mustBeRight(t, a, f.tells(flags))
			}
		}
	}
}

func TestRightOfEachFilling(t *testing.T) {
	for flags := range uint32(16) {
		eachFilling(flags, func(a api.Attrs) { mustBeRight(t, a, a == toldOf(a)) })
	}
}

// TestRightOfWrongFlags: whatever is set beside them.
func TestRightOfWrongFlags(t *testing.T) {
	for _, flags := range wrongFlags() {
		mustBeRight(t, api.Attrs{Flags: flags}, false)
		mustBeRight(t, each(flags), false)
		mustBeRight(t, toldOf(each(flags)), false)
	}
	for flags := uint32(16); flags < 1<<16; flags++ {
		mustBeRight(t, api.Attrs{Flags: flags}, false)
	}
	r := rand.New(rand.NewSource(1))
	for range 10000 {
		flags := r.Uint32()
		mustBeRight(t, api.Attrs{Flags: flags}, flags <= 15)
	}
}
