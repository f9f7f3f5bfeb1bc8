package attr_test

import (
	"math"
	"math/rand"
	"testing"

	"strongroom/api"
	"strongroom/attr"
)

// mustMerge asks also that what was handed in stays.
func mustMerge(t *testing.T, a, by, want api.Attrs) {
	t.Helper()
	wasA, wasBy := a, by
	if got := attr.Merge(a, by); got != want {
		t.Errorf("P14.1: Merge of %+v by %+v: %+v, want %+v", a, by, got, want)
	}
	if a != wasA || by != wasBy {
		t.Errorf("R2: Merge of %+v by %+v changed them to %+v, %+v", wasA, wasBy, a, by)
	}
}

// mergeByHand goes field by field.
func mergeByHand(a, by api.Attrs) api.Attrs {
	out := api.Attrs{Flags: a.Flags | by.Flags}
	for _, f := range fields() {
		n := f.of(a)
		if f.tells(by.Flags) {
			n = f.of(by)
		}
		f.set(&out, n)
	}
	return out
}

func TestMerge(t *testing.T) {
	full := api.Attrs{Flags: 15, Size: 1, Uid: 2, Gid: 3, Mode: 4, Atime: 5, Mtime: 6}
	mustMerge(t, full, api.Attrs{}, full)
	mustMerge(t, api.Attrs{}, full, full)
	mustMerge(t, full, full, full)
	mustMerge(t, api.Attrs{}, api.Attrs{}, api.Attrs{})
	mustMerge(t, full, api.Attrs{Flags: 1, Size: 9}, api.Attrs{Flags: 15, Size: 9, Uid: 2, Gid: 3, Mode: 4, Atime: 5, Mtime: 6})
	mustMerge(t, full, api.Attrs{Flags: 2, Uid: 9, Gid: 8}, api.Attrs{Flags: 15, Size: 1, Uid: 9, Gid: 8, Mode: 4, Atime: 5, Mtime: 6})
	mustMerge(t, full, api.Attrs{Flags: 4, Mode: 9}, api.Attrs{Flags: 15, Size: 1, Uid: 2, Gid: 3, Mode: 9, Atime: 5, Mtime: 6})
	mustMerge(t, full, api.Attrs{Flags: 8, Atime: 9, Mtime: 8}, api.Attrs{Flags: 15, Size: 1, Uid: 2, Gid: 3, Mode: 4, Atime: 9, Mtime: 8})
	mustMerge(t, api.Attrs{Flags: 1, Size: 8}, api.Attrs{Flags: 2, Gid: 7}, api.Attrs{Flags: 3, Size: 8, Gid: 7})
}

// TestMergeByNoughts: what is told to be 0 is 0 then.
func TestMergeByNoughts(t *testing.T) {
	mustMerge(t, each(15), api.Attrs{Flags: 15}, api.Attrs{Flags: 15})
	mustMerge(t, each(15), api.Attrs{Flags: 2, Uid: 9}, api.Attrs{Flags: 15, Size: 0x0102030405060708, Uid: 9, Mode: 0x31323334, Atime: 0x41424344, Mtime: 0x51525354})
	for flags := range uint32(16) {
		for by := range uint32(16) {
			mustMerge(t, toldOf(each(flags)), api.Attrs{Flags: by}, mergeByHand(toldOf(each(flags)), api.Attrs{Flags: by}))
		}
	}
}

// TestMergeOfEachFlags: with all fields set, told or not: what by does not tell stays as a has it, though a does not tell it either.
func TestMergeOfEachFlags(t *testing.T) {
	for flags := range uint32(16) {
		for by := range uint32(16) {
			mustMerge(t, each(flags), other(by), mergeByHand(each(flags), other(by)))
			mustMerge(t, toldOf(each(flags)), other(by), mergeByHand(toldOf(each(flags)), other(by)))
			right := mergeByHand(toldOf(each(flags)), toldOf(other(by)))
			mustMerge(t, toldOf(each(flags)), toldOf(other(by)), right)
			mustBeRight(t, right, true)
		}
	}
}

// TestMergeWithNothing: a alone, whatever it is, and by alone, without what it does not tell.
func TestMergeWithNothing(t *testing.T) {
	for flags := range uint32(16) {
		for _, a := range []api.Attrs{each(flags), other(flags), toldOf(each(flags)), filled(flags, field.greatest), {Flags: flags}} {
			mustMerge(t, a, api.Attrs{}, a)
			mustMerge(t, a, a, a)
			mustMerge(t, api.Attrs{}, a, toldOf(a))
			mustMerge(t, a, other(0), a)
		}
	}
}

func TestMergeOfEachFilling(t *testing.T) {
	for flags := range uint32(16) {
		eachFilling(flags, func(a api.Attrs) {
			for _, mine := range []uint32{0, 5, 15} {
				mustMerge(t, each(mine), a, mergeByHand(each(mine), a))
				mustMerge(t, a, each(mine), mergeByHand(a, each(mine)))
			}
		})
	}
}

// TestMergeOfWrongFlags: bits above the lowest four stay too, and tell nothing.
func TestMergeOfWrongFlags(t *testing.T) {
	mustMerge(t, api.Attrs{Uid: 3}, api.Attrs{Flags: 16}, api.Attrs{Flags: 16, Uid: 3})
	mustMerge(t, api.Attrs{Flags: 32, Uid: 3}, api.Attrs{Flags: 16, Uid: 4}, api.Attrs{Flags: 48, Uid: 3})
	mustMerge(t, each(1<<31), other(math.MaxUint32), other(math.MaxUint32))
	for _, flags := range wrongFlags() {
		for _, right := range []uint32{0, 1, 2, 4, 8, 15} {
			mustMerge(t, each(flags), other(right), mergeByHand(each(flags), other(right)))
			mustMerge(t, each(right), other(flags), mergeByHand(each(right), other(flags)))
		}
	}
}

func TestMergeOfMany(t *testing.T) {
	r := rand.New(rand.NewSource(5))
	for range 20000 {
		a, by := someAttrs(r), someAttrs(r)
		mustMerge(t, a, by, mergeByHand(a, by))
	}
}
