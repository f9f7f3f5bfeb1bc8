package tree_test

import (
	"math/rand"
	"slices"
	"strings"
	"testing"

	"strongroom/api"
	"strongroom/tree"
)

func TestList(t *testing.T) {
	x := filled(t, "d/", "d/f=eff", "d/e/", "d/e/g=gee", "a")
	mustList(t, x, 0, "a:0:33188 d:0:16877")
	mustList(t, x, 1, "e:0:16877 f:3:33188")
	mustList(t, x, 3, "g:3:33188")
	mustNotList(t, x, api.ErrKind, 2)
	mustNotList(t, x, api.ErrKind, 5)
	mustNotList(t, x, api.ErrNone, 6)
}

// TestListOfAttrs: they are those that Attrs answers, and each thing's own.
func TestListOfAttrs(t *testing.T) {
	x := filled(t, "c=12345", "a/", "b")
	mustSet(t, x, 1, told(15))
	mustSet(t, x, 2, told(2))
	mustSet(t, x, 3, told(8))
	want := []api.Name{{Name: "a", Attrs: with(first(true), 2)}, {Name: "b", Attrs: with(first(false), 8)}, {Name: "c", Attrs: told(15)}}
	l, why := x.List(0)
	if !slices.Equal(l, want) || why != api.OK {
		t.Errorf("P15.3: List: %v, %v; want %v", l, why, want)
	}
	for _, n := range l {
		id, _ := x.Look([]string{n.Name})
		mustHave(t, x, id, n.Attrs)
	}
}

// TestListInOrder: of the names' bytes, not of letters, lengths or numbers, however they came there.
func TestListInOrder(t *testing.T) {
	names := []string{"\x01", "\n", " ", "!", "-", ".a", "...", "0", "00", "01", "1", "10", "2", "9", "A", "AA", "B", "Z", "_", "a", "a\x01", "a ", "a.", "aA", "aa", "aaa", "ab", "b", "ba", "z", "~", "\x7f", "\u00e9", "\u0101", "\uffff", "\U0001f600", "\xff", "\xff\x01", "\xff\xff", "\x80", longest, longest[:29], longest[:29] + "m", longest[:29] + "o"}
	r := rand.New(rand.NewSource(1))
	for range 200 {
		r.Shuffle(len(names), func(i, j int) { names[i], names[j] = names[j], names[i] })
		some := slices.Clone(names[:r.Intn(len(names))])
		x := filled(t, "d/")
		for i, name := range some {
			mustMake(t, x, "d/"+name, i%2 == 0, i+2)
		}
		mustHaveNames(t, x, 1, some)
		for i, to := range []string{"", "mm", "\x02", "\xfe"} {
			if i < len(some) && to != "" {
				mustRename(t, x, "d/"+some[i], "d/"+to)
				some[i] = to
			}
		}
		mustHaveNames(t, x, 1, some)
	}
}

// mustHaveNames holds those of List against the same ones in order.
func mustHaveNames(t *testing.T, x *tree.Tree, id int, names []string) {
	t.Helper()
	want := slices.Clone(names)
	slices.SortFunc(want, strings.Compare)
	l, why := x.List(id)
	var got []string
	for _, n := range l {
		got = append(got, n.Name)
	}
	if !slices.Equal(got, want) || why != api.OK {
		t.Errorf("P15.3: List: %q, %v; want %q", got, why, want)
	}
}

// TestListOfMany: a directory with all things that may be.
func TestListOfMany(t *testing.T) {
	x := crowd(t)
	l, why := x.List(0)
	if len(l) != 198 || why != api.OK || !slices.IsSortedFunc(l, func(a, b api.Name) int { return strings.Compare(a.Name, b.Name) }) {
		t.Errorf("P15.3: List: %d names, %v", len(l), why)
	}
}

// TestCounts: Dir, Count and Bytes behind each kind of call, those that are refused too.
func TestCounts(t *testing.T) {
	x := tree.New()
	mustTell := func(count, bytes int, dirs ...bool) {
		t.Helper()
		mustCount(t, x, count, bytes)
		for id := -1; id < 6; id++ {
			if want := id >= 0 && id < len(dirs) && dirs[id]; x.Dir(id) != want {
				t.Errorf("P15.3: Dir(%d): %v", id, x.Dir(id))
			}
		}
	}
	mustTell(1, 0, true)
	mustMake(t, x, "d", true, 1)
	mustTell(2, 0, true, true)
	mustMake(t, x, "d/f", false, 2)
	mustTell(3, 0, true, true, false)
	mustWrite(t, x, 2, 4, "abc")
	mustTell(3, 7, true, true, false)
	mustWrite(t, x, 2, 0, "abc")
	mustTell(3, 7, true, true, false)
	mustSet(t, x, 2, sized(5))
	mustTell(3, 5, true, true, false)
	mustSet(t, x, 2, sized(9))
	mustTell(3, 9, true, true, false)
	mustRename(t, x, "d/f", "f")
	mustTell(3, 9, true, true, false)
	mustMake(t, x, "e", true, 3)
	mustRename(t, x, "d", "e/d")
	mustTell(4, 9, true, true, false, true)
	mustNotMake(t, x, api.ErrTaken, "e", "d")
	mustNotRemove(t, x, api.ErrUsed, true, "e")
	mustNotWrite(t, x, api.ErrLong, 2, 1<<20, "x")
	mustNotSet(t, x, api.ErrLong, 2, sized(1<<21))
	mustTell(4, 9, true, true, false, true)
	mustRemove(t, x, "f", false)
	mustTell(3, 0, true, true, false, true)
	mustRemove(t, x, "e/d", true)
	mustTell(2, 0, true, false, false, true)
	x = mustLoadAgain(t, x)
	mustTell(2, 0, true, false, false, true)
}
