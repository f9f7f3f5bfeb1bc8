package tree_test

import (
	"bytes"
	"fmt"
	"slices"
	"testing"
	"unsafe"

	"strongroom/api"
	"strongroom/tree"
)

// roomy is a path with other names in its spare room, and all of it.
func roomy(s string) ([]string, []string) {
	all := append(of(s), "mark", "mark", "mark")
	return all[: len(all)-3 : len(all)], all
}

// TestPathsStay: they are not changed and not kept, and the room behind them is neither read nor written.
func TestPathsStay(t *testing.T) {
	x := filled(t, "d/", "d/f=eff", "mark/")
	var all [][]string
	path := func(s string) []string {
		p, whole := roomy(s)
		all = append(all, whole)
		return p
	}
	var before []string
	do := func(what string, why api.Errno) {
		t.Helper()
		if why != api.OK {
			t.Errorf("P15.1: %s: %v", what, why)
		}
		for _, whole := range all {
			before = append(before, fmt.Sprintf("%q", whole))
		}
	}
	_, why := x.Look(path("d/f"))
	do("Look", why)
	_, why = x.Make(path("d/g"), true)
	do("Make", why)
	do("Rename", x.Rename(path("d/f"), path("d/g/h")))
	do("Rename", x.Rename(path("d/g"), path("e")))
	do("Remove", x.Remove(path("mark"), true))
	for i, s := range []string{"d/f", "d/g", "d/f", "d/g/h", "d/g", "e", "mark"} {
		if _, whole := roomy(s); !slices.Equal(all[i], whole) {
			t.Errorf("R2: a path was changed to %q", all[i])
		}
		for j := range all[i] {
			all[i][j] = "spoilt"
		}
	}
	mustList(t, x, 0, "d:0:16877 e:0:16877")
	mustList(t, x, 4, "h:3:33188")
	mustLook(t, x, "e/h", 2)
}

func TestWriteKeepsNothing(t *testing.T) {
	x := filled(t, "f")
	all := []byte("0123456789")
	for _, n := range []int{0, 3, 10} {
		b := all[:n]
		if why := x.Write(1, 0, b); why != api.OK || string(all) != "0123456789" {
			t.Errorf("R2: Write changed what was handed in to %q, %v", all, why)
		}
	}
	clear(all)
	mustRead(t, x, 1, 0, 99, "0123456789")
	b := []byte("abc")
	x.Write(1, 20, b)
	clear(b)
	mustRead(t, x, 1, 20, 99, "abc")
}

// spoil changes all of b, its spare room too.
func spoil(b []byte) {
	for i := range b[:cap(b)] {
		b[:cap(b)][i] = 'z'
	}
}

func TestReadAnswersNewMemory(t *testing.T) {
	x := filled(t, "f=0123456789")
	for _, n := range []uint32{0, 1, 5, 10, 99} {
		first, _ := x.Read(1, 0, n)
		want := bytes.Clone(first)
		second, _ := x.Read(1, 0, n)
		spoil(second)
		if !bytes.Equal(first, want) {
			t.Errorf("R2: two answers of Read share memory")
		}
		mustRead(t, x, 1, 0, 99, "0123456789")
	}
	x = filled(t, "f=0123456789")
	mustSet(t, x, 1, sized(4))
	b, _ := x.Read(1, 0, 99)
	spoil(b)
	mustSet(t, x, 1, sized(9))
	mustRead(t, x, 1, 0, 99, "0123\x00\x00\x00\x00\x00")
}

// TestAnswersStay: what was answered does not change with the tree.
func TestAnswersStay(t *testing.T) {
	x := filled(t, "d/", "f=0123456789")
	b, _ := x.Read(2, 0, 99)
	l, _ := x.List(0)
	saved := x.Save()
	before := fmt.Sprintf("%s %v %x", b, l, saved)
	mustWrite(t, x, 2, 0, "other bytes than ahead")
	mustRename(t, x, "f", "a")
	mustSet(t, x, 1, told(14))
	mustRemove(t, x, "d", true)
	if got := fmt.Sprintf("%s %v %x", b, l, saved); got != before {
		t.Errorf("R2: answers changed from %s to %s", before, got)
	}
}

func TestListAnswersNewMemory(t *testing.T) {
	x := filled(t, "d/", "d/a", "d/b", "d/c=see")
	first, _ := x.List(1)
	want := slices.Clone(first)
	second, _ := x.List(1)
	for i := range second[:cap(second)] {
		second[:cap(second)][i] = api.Name{Name: "spoilt"}
	}
	third, _ := x.List(1)
	if !slices.Equal(first, want) || !slices.Equal(third, want) {
		t.Errorf("R2: answers of List share memory: %v, %v", first, third)
	}
}

func TestSaveAnswersNewMemory(t *testing.T) {
	x := filled(t, "d/", "d/f=eff")
	want := string(x.Save())
	first := x.Save()
	spoil(x.Save())
	if string(first) != want || string(x.Save()) != want {
		t.Error("R2: answers of Save share memory")
	}
}

// TestLoadKeepsNothing: the bytes are not changed, their spare room is not read, and the tree does not change with them.
func TestLoadKeepsNothing(t *testing.T) {
	want := filled(t, "d/", "d/f=eff").Save()
	all := append(bytes.Clone(want), "mark"...)
	x, why := tree.Load(all[:len(want)])
	if why != api.OK || string(all) != string(want)+"mark" {
		t.Fatalf("R2: Load changed its bytes, or read behind them: %v", why)
	}
	spoil(all)
	if !bytes.Equal(x.Save(), want) {
		t.Error("R2: a tree changed with the bytes that it was loaded from")
	}
}

// shares says whether both texts lie in the same memory.
func shares(a, b string) bool {
	startA, startB := uintptr(unsafe.Pointer(unsafe.StringData(a))), uintptr(unsafe.Pointer(unsafe.StringData(b)))
	return startA < startB+uintptr(len(b)) && startB < startA+uintptr(len(a))
}

func TestNamesAreNewMemory(t *testing.T) {
	whole := string([]byte("ahead, name, other, behind"))
	name, other := whole[7:11], whole[13:18]
	x := tree.New()
	x.Make([]string{name}, false)
	x.Make([]string{"b"}, false)
	x.Rename([]string{"b"}, []string{other})
	first, _ := x.List(0)
	second, _ := x.List(0)
	for i, n := range first {
		if shares(n.Name, whole) || shares(n.Name, second[i].Name) {
			t.Errorf("R2: the name %q lies in the memory of others", n.Name)
		}
	}
}

// TestTreesAreByThemselves: what one does another one does not see.
func TestTreesAreByThemselves(t *testing.T) {
	x, y := tree.New(), tree.New()
	mustMake(t, x, "a", true, 1)
	mustMake(t, x, "b", false, 2)
	mustWrite(t, x, 2, 0, "abc")
	mustSet(t, x, 0, told(14))
	mustSaveAlike(t, "beside another one", y, tree.New())
	mustMake(t, y, "a", false, 1)
	mustCount(t, y, 2, 0)
	mustCount(t, x, 3, 3)
}
