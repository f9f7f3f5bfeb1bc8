package tree_test

import (
	"encoding/binary"
	"fmt"
	"math"
	"strings"
	"testing"

	"strongroom/api"
	"strongroom/tree"
)

// forged is a thing as Save writes it; each part may be one that no Save would write.
type forged struct {
	name  string
	id    uint64
	kind  byte
	flags uint32
	size  uint64
	data  string
	count uint32
	held  []forged
}

func forgedFile(name string, id uint64, data string) forged {
	return forged{name: name, id: id, flags: 15, size: uint64(len(data)), data: data}
}

func forgedDir(name string, id uint64, held ...forged) forged {
	return forged{name: name, id: id, kind: 1, flags: 15, count: uint32(len(held)), held: held}
}

// bytes puts a thing behind b, of Mode 7 and its other numbers noughts, as far as Flags tell them.
func (f forged) bytes(b []byte) []byte {
	b = append(binary.BigEndian.AppendUint64(b, f.id), f.kind)
	b = binary.BigEndian.AppendUint32(b, f.flags)
	if f.flags&1 != 0 {
		b = binary.BigEndian.AppendUint64(b, f.size)
	}
	for _, part := range []struct{ bit, n uint32 }{{2, 0}, {2, 0}, {4, 7}, {8, 0}, {8, 0}} {
		if f.flags&part.bit != 0 {
			b = binary.BigEndian.AppendUint32(b, part.n)
		}
	}
	b = append(b, f.data...)
	b = binary.BigEndian.AppendUint32(b, f.count)
	for _, y := range f.held {
		b = binary.BigEndian.AppendUint32(b, uint32(len(y.name)))
		b = append(b, y.name...)
		b = y.bytes(b)
	}
	return b
}

func forge(next uint64, root forged) []byte {
	return root.bytes(binary.BigEndian.AppendUint64(nil, next))
}

// TestForge: what is right loads, so that all below is refused for its one fault.
func TestForge(t *testing.T) {
	x := filled(t, "gone", "d/", "d/f=eff", "e")
	mustRemove(t, x, "gone", false)
	for id := range 5 {
		x.Set(id, api.Attrs{Flags: 4, Mode: 7})
	}
	b := forge(5, forgedDir("", 0, forgedDir("d", 2, forgedFile("f", 3, "eff")), forgedFile("e", 4, "")))
	if string(b) != string(x.Save()) {
		t.Fatalf("Save: %x, want %x", x.Save(), b)
	}
	for _, right := range [][]byte{
		b,
		forge(1, forgedDir("", 0)),
		forge(7, forgedDir("", 0)),
		forge(1<<40, forgedDir("", 0, forgedFile("a", 1<<39, ""))),
		forge(6, forgedDir("", 0, forgedDir("a", 5, forgedDir("a", 1, forgedDir("a", 3))))),
		forge(3, forgedDir("", 0, forgedFile("a", 2, ""), forgedFile("a\x01", 1, ""))),
	} {
		if x, why := tree.Load(right); why != api.OK || string(x.Save()) != string(right) {
			t.Errorf("P15.4: Load of %x: %v", right, why)
		}
	}
}

func TestLoadOfWrongThings(t *testing.T) {
	f, d := forgedFile("f", 1, "eff"), forgedDir("d", 2)
	change := func(f forged, how func(f *forged)) []byte {
		how(&f)
		return forge(3, forgedDir("", 0, f))
	}
	for what, b := range map[string][]byte{
		"a file as root":              forge(1, forgedFile("", 0, "")),
		"a root of another number":    forge(3, forgedDir("", 1, f)),
		"a root alone, of number 1":   forge(3, forgedDir("", 1)),
		"a thing of the root's":       forge(3, forgedDir("", 0, forgedFile("f", 0, ""))),
		"one number twice":            forge(3, forgedDir("", 0, f, forgedFile("g", 1, ""))),
		"a number of what holds it":   forge(3, forgedDir("", 0, forgedDir("d", 2, forgedFile("f", 2, "")))),
		"the next number":             forge(2, forgedDir("", 0, d)),
		"a number above the next":     forge(2, forgedDir("", 0, forgedFile("f", 1<<63, ""))),
		"no next number":              forge(0, forgedDir("", 0)),
		"a next number beyond an int": forge(1<<63, forgedDir("", 0)),
		"the greatest next number":    forge(math.MaxUint64, forgedDir("", 0)),
		"an int's greatest number":    forge(math.MaxInt64, forgedDir("", 0)),
		"a kind that is none":         change(f, func(f *forged) { f.kind = 2 }),
		"a kind of other bits":        change(d, func(f *forged) { f.kind = 129 }),
		"Flags 0":                     change(forgedFile("f", 1, ""), func(f *forged) { f.flags = 0 }),
		"Flags without a Size":        change(forgedFile("f", 1, ""), func(f *forged) { f.flags = 14 }),
		"Flags without owners":        change(f, func(f *forged) { f.flags = 13 }),
		"Flags without a Mode":        change(f, func(f *forged) { f.flags = 11 }),
		"Flags without times":         change(d, func(f *forged) { f.flags = 7 }),
		"Flags above 15":              change(f, func(f *forged) { f.flags = 31 }),
		"a directory's Size":          change(d, func(f *forged) { f.size, f.data = 3, "eff" }),
		"a directory's Size alone":    change(d, func(f *forged) { f.size = 1 }),
		"a file that holds something": change(f, func(f *forged) { f.count, f.held = 1, []forged{d} }),
		"a file's count":              change(f, func(f *forged) { f.count = 1 }),
		"a Size that is too great":    change(f, func(f *forged) { f.size = math.MaxUint64 }),
		"a Size beyond an int":        change(f, func(f *forged) { f.size = 1 << 63 }),
		"a Size of too few bytes":     change(f, func(f *forged) { f.size = 30 }),
		"a count that is too great":   change(d, func(f *forged) { f.count = math.MaxUint32 }),
		"names twice":                 forge(3, forgedDir("", 0, f, forgedDir("f", 2))),
		"names in no order":           forge(3, forgedDir("", 0, f, d)),
		"names in order, then not":    forge(4, forgedDir("", 0, forgedFile("a", 3, ""), f, d)),
	} {
		mustNotLoad(t, what, b)
	}
	for _, name := range wrongNames() {
		mustNotLoad(t, fmt.Sprintf("the name %.40q", name), forge(3, forgedDir("", 0, forgedFile(name, 1, ""))))
		mustNotLoad(t, fmt.Sprintf("the name %.40q", name), forge(3, forgedDir("", 0, forgedDir("a", 1, forgedDir(name, 2)))))
	}
	mustNotLoad(t, "bytes behind", append(forge(3, forgedDir("", 0, d)), 0))
}

// forgedCrowd has n things in the root, from number 1 on.
func forgedCrowd(n int) forged {
	var all []forged
	for id := 1; id <= n; id++ {
		all = append(all, forgedFile(fmt.Sprintf("%03d", id), uint64(id), ""))
	}
	return forgedDir("", 0, all...)
}

// TestLoadOfFullTrees: of one thing too many, and of a next number that none could come to.
func TestLoadOfFullTrees(t *testing.T) {
	for _, b := range [][]byte{forge(200, forgedCrowd(199)), forge(199, forgedCrowd(198)), forge(1000, forgedCrowd(198))} {
		x, why := tree.Load(b)
		if why != api.OK {
			t.Fatalf("P15.4: Load of a full tree: %v", why)
		}
		mustSaveAlike(t, "a full tree", x, built(t, x, nextOf(t, x)))
	}
	mustNotLoad(t, "one thing too many", forge(201, forgedCrowd(200)))
	mustNotLoad(t, "many things too many", forge(1001, forgedCrowd(1000)))
	// To give away a number, a thing must be made, and of MaxNodes none is gone.
	mustNotLoad(t, "a full tree with a gap behind", forge(201, forgedCrowd(199)))
	mustNotLoad(t, "a full tree with a gap behind", forge(1000, forgedCrowd(199)))
	gap := forgedCrowd(199)
	gap.held[7].id = 300
	x, why := tree.Load(forge(301, gap))
	if why != api.OK {
		t.Fatalf("P15.4: Load of a full tree with a gap between: %v", why)
	}
	mustSaveAlike(t, "a full tree with a gap between", x, built(t, x, 301))
	mustNotLoad(t, "a full tree with a gap behind", forge(302, gap))
}

// TestLoadOfDeepThings: however many directories are said to lie in one another.
func TestLoadOfDeepThings(t *testing.T) {
	for _, n := range []int{198, 199, 200, 5000} {
		inner := forgedDir("d", uint64(n))
		for id := n - 1; id >= 0; id-- {
			inner = forgedDir("d", uint64(id), inner)
		}
		b := forge(uint64(n)+1, inner)
		if n > 199 {
			mustNotLoad(t, "deep things", b)
			continue
		}
		if x, why := tree.Load(b); why != api.OK || x.Count() != n+1 {
			t.Errorf("P15.4: Load of %d directories in one another: %v", n, why)
		}
	}
}

func TestLoadOfManyBytes(t *testing.T) {
	const most = 1 << 20
	whole, half := strings.Repeat("x", most), strings.Repeat("y", most/2)
	for _, root := range []forged{forgedDir("", 0, forgedFile("a", 1, whole)), forgedDir("", 0, forgedFile("a", 1, half), forgedFile("b", 2, half))} {
		if x, why := tree.Load(forge(3, root)); why != api.OK || x.Bytes() != most {
			t.Errorf("P15.4: Load of MaxBytes: %v", why)
		}
	}
	mustNotLoad(t, "MaxBytes and one more", forge(3, forgedDir("", 0, forgedFile("a", 1, whole+"x"))))
	mustNotLoad(t, "MaxBytes and one more of two", forge(3, forgedDir("", 0, forgedFile("a", 1, half), forgedFile("b", 2, half+"y"))))
	mustNotLoad(t, "MaxBytes and one more of two", forge(3, forgedDir("", 0, forgedFile("a", 2, whole), forgedFile("b", 1, "y"))))
}
