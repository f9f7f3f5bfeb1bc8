package tree_test

import (
	"fmt"
	"math/rand"
	"slices"
	"strings"
	"testing"

	"strongroom/api"
	"strongroom/tree"
)

// mustSaveAlike holds two trees against one another.
func mustSaveAlike(t *testing.T, what string, x, y *tree.Tree) {
	t.Helper()
	if string(x.Save()) != string(y.Save()) {
		t.Errorf("P15.4: %s: the same tree, other bytes", what)
	}
}

// TestSaveOfOneTreeMadeInTwoWays: what was there in between does not matter.
func TestSaveOfOneTreeMadeInTwoWays(t *testing.T) {
	x := filled(t, "d/", "f=0123456789", "d/g=gee")
	y := filled(t, "z/", "z/q", "g=other")
	mustSaveAlike(t, "behind nothing", tree.New(), tree.New())
	mustRename(t, y, "z/q", "f")
	mustRename(t, y, "z", "d")
	mustRename(t, y, "g", "d/g")
	mustWrite(t, y, 2, 30, "beyond")
	mustWrite(t, y, 2, 5, "56789")
	mustWrite(t, y, 2, 0, "01234")
	mustSet(t, y, 2, sized(10))
	mustSet(t, y, 3, sized(0))
	mustWrite(t, y, 3, 0, "gee")
	mustSet(t, y, 3, told(14))
	mustSet(t, y, 3, api.Attrs{Flags: 14, Mode: 33188})
	mustSaveAlike(t, "names and bytes that were others", x, y)
	mustMake(t, y, "f2", false, 4)
	mustRemove(t, y, "f2", false)
	if string(x.Save()) == string(y.Save()) {
		t.Error("P15.4: two trees with two next numbers, the same bytes")
	}
	mustMake(t, x, "d/h", true, 4)
	mustRemove(t, x, "d/h", true)
	mustSaveAlike(t, "the next number by two ways", x, y)
}

// TestSaveOfRefusals: they and calls that only ask leave it as it is.
func TestSaveOfRefusals(t *testing.T) {
	x := fewFiles(t)
	before := string(x.Save())
	x.Look(of("d"))
	x.Read(2, 0, 9)
	x.Write(2, 9, nil)
	x.Set(2, api.Attrs{})
	x.Attrs(1)
	x.List(1)
	x.Dir(1)
	x.Count()
	x.Bytes()
	x.Save()
	x.Make(of("d"), true)
	x.Rename(of("d"), of("d"))
	if string(x.Save()) != before {
		t.Error("P15.4: Save differs, though nothing was done")
	}
}

// built is x made anew by calls alone, in another way: all that it has comes to be in the root in the order of the numbers, and then goes to where it belongs.
func built(t *testing.T, x *tree.Tree, next int) *tree.Tree {
	t.Helper()
	places := map[int][]string{}
	placesUnder(x, nil, places)
	y := tree.New()
	for id := 1; id < next; id++ {
		_, there := places[id]
		if y.Count() == api.MaxNodes {
			t.Fatalf("P15.4: number %d can't have been given away", id)
		}
		mustMake(t, y, fmt.Sprint("\x01", id), there && x.Dir(id), id)
		if !there {
			mustRemove(t, y, fmt.Sprint("\x01", id), false)
		}
	}
	var all []int
	for id := range places {
		all = append(all, id)
	}
	slices.SortFunc(all, func(a, b int) int { return len(places[a]) - len(places[b]) })
	for _, id := range all {
		if id != 0 {
			mustRename(t, y, fmt.Sprint("\x01", id), strings.Join(places[id], "/"))
		}
		putBytes(t, x, y, id)
	}
	return y
}

func placesUnder(x *tree.Tree, p []string, places map[int][]string) {
	id, _ := x.Look(p)
	places[id] = p
	l, _ := x.List(id)
	for _, n := range l {
		placesUnder(x, append(slices.Clone(p), n.Name), places)
	}
}

// putBytes gives what is told of a thing in x to that of y, the last bytes first.
func putBytes(t *testing.T, x, y *tree.Tree, id int) {
	t.Helper()
	a, _ := x.Attrs(id)
	for at := a.Size; at > 0; {
		n := min(at, 32768)
		at -= n
		b, why := x.Read(id, at, uint32(n))
		if why != api.OK {
			t.Fatalf("P15.2: Read(%d, %d, %d): %v", id, at, n, why)
		}
		mustWrite(t, y, id, at, string(b))
	}
	a.Flags, a.Size = 14, 0
	mustSet(t, y, id, a)
}

// TestSaveOfManyTreesMadeInTwoWays: by any calls, and then by as few as lead to the same.
func TestSaveOfManyTreesMadeInTwoWays(t *testing.T) {
	r := rand.New(rand.NewSource(4))
	for range 300 {
		x := tree.New()
		for range r.Intn(150) {
			someStep(r)(x)
		}
		mustSaveAlike(t, "made anew", x, built(t, x, nextOf(t, x)))
	}
	x := crowd(t)
	for range 500 {
		someStep(r)(x)
	}
	mustSaveAlike(t, "a full tree", x, built(t, x, nextOf(t, x)))
}
