package tree_test

import (
	"bytes"
	"math/rand"
	"testing"

	"strongroom/api"
	"strongroom/tree"
)

// mustLoadAgain answers what Load makes of what Save gave.
func mustLoadAgain(t *testing.T, x *tree.Tree) *tree.Tree {
	t.Helper()
	b := x.Save()
	y, why := tree.Load(b)
	if y == nil || why != api.OK {
		t.Fatalf("P15.4: Load of what Save gave: %v, %v", y, why)
	}
	if !bytes.Equal(y.Save(), b) {
		t.Fatalf("P15.4: Load of what Save gave saves as other bytes")
	}
	if before, behind := tell(x, 250), tell(y, 250); before != behind {
		t.Fatalf("P15.4: Load of what Save gave: %s\nwant %s", behind, before)
	}
	return y
}

func mustNotLoad(t *testing.T, what string, b []byte) {
	t.Helper()
	if x, why := tree.Load(b); x != nil || why != api.ErrForm {
		t.Errorf("P15.4: Load of %s: %v, %v", what, x != nil, why)
	}
}

// TestLoadAnswersAsTheFirst: each call behind it, and the next number.
func TestLoadAnswersAsTheFirst(t *testing.T) {
	r := rand.New(rand.NewSource(5))
	for range 200 {
		x := tree.New()
		for range r.Intn(80) {
			someStep(r)(x)
		}
		y := mustLoadAgain(t, x)
		for range 80 {
			do := someStep(r)
			if got, want := do(y), do(x); got != want {
				t.Fatalf("P15.4: behind Load %s\nwant %s", got, want)
			}
		}
		mustSaveAlike(t, "behind Load", x, y)
	}
}

// TestLoadIsByItself: neither the first tree nor another one of the same bytes changes with it.
func TestLoadIsByItself(t *testing.T) {
	x := filled(t, "d/", "d/f=eff")
	b := x.Save()
	y, _ := tree.Load(b)
	z, _ := tree.Load(b)
	mustWrite(t, y, 2, 0, "other")
	mustSet(t, y, 1, told(14))
	mustRename(t, y, "d", "e")
	mustMake(t, y, "g", false, 3)
	for _, same := range []*tree.Tree{x, z} {
		if !bytes.Equal(same.Save(), b) {
			t.Error("P15.4: a tree changed with another one that was loaded")
		}
		mustMake(t, same, "g", true, 3)
	}
}

// severalTrees are small ones, and one in which something is of each kind.
func severalTrees(t *testing.T) []*tree.Tree {
	t.Helper()
	x := filled(t, "gone", "d/", "d/f=eff", "d/e/", "g=0123456789", "d/e/h")
	mustRemove(t, x, "gone", false)
	mustSet(t, x, 3, told(14))
	return []*tree.Tree{tree.New(), filled(t, "f=\x01\x02"), filled(t, "d/", "d/e/", "d/f"), x}
}

func TestLoadOfCutBytes(t *testing.T) {
	for _, x := range severalTrees(t) {
		b := x.Save()
		for n := range b {
			mustNotLoad(t, "bytes cut off", b[:n])
			mustNotLoad(t, "bytes cut off", b[:n:n])
			mustNotLoad(t, "bytes without their first", b[n+1:])
		}
	}
}

func TestLoadOfMoreBytes(t *testing.T) {
	for _, x := range severalTrees(t) {
		b := x.Save()
		for more := range 256 {
			mustNotLoad(t, "a byte more", append(bytes.Clone(b), byte(more)))
			mustNotLoad(t, "a byte more ahead", append([]byte{byte(more)}, b...))
		}
		mustNotLoad(t, "bytes twice", append(bytes.Clone(b), b...))
		mustNotLoad(t, "many noughts more", append(bytes.Clone(b), make([]byte, 1<<16)...))
	}
}

// mustLoadOrRefuse loads any bytes: if they are taken, then calls alone make a tree that saves as just these.
func mustLoadOrRefuse(t *testing.T, b []byte) {
	t.Helper()
	x, why := tree.Load(b)
	if why != api.OK {
		if x != nil || why != api.ErrForm {
			t.Fatalf("P15.4: Load of %x: %v beside %v", b, x, why)
		}
		return
	}
	if !bytes.Equal(x.Save(), b) {
		t.Fatalf("P15.4: Load of %x saves as %x", b, x.Save())
	}
	tell(x, 20)
	// So many that nobody makes them here.
	if next := nextOf(t, x); next < 2000 {
		mustSaveAlike(t, "bytes that were turned and taken", x, built(t, x, next))
	}
}

func TestLoadOfTurnedBytes(t *testing.T) {
	for _, x := range severalTrees(t) {
		b := x.Save()
		for at := range b {
			for to := range 256 {
				turned := bytes.Clone(b)
				turned[at] = byte(to)
				mustLoadOrRefuse(t, turned)
			}
		}
	}
}

// TestLoadOfBytesTurnedTwice: two at a time, a byte gone, a byte twice, two pieces in the other order.
func TestLoadOfBytesTurnedTwice(t *testing.T) {
	r := rand.New(rand.NewSource(6))
	for range 20000 {
		all := severalTrees(t)
		b := all[r.Intn(len(all))].Save()
		i, j := r.Intn(len(b)), r.Intn(len(b))
		i, j = min(i, j), max(i, j)
		switch r.Intn(4) {
		case 0:
			b[i], b[j] = byte(r.Intn(7)), byte(r.Intn(256))
		case 1:
			b = append(bytes.Clone(b[:i]), b[j:]...)
		case 2:
			b = append(bytes.Clone(b[:j]), b[i:]...)
		case 3:
			b = append(append(bytes.Clone(b[j:]), b[i:j]...), b[:i]...)
		}
		mustLoadOrRefuse(t, b)
	}
}

func TestLoadOfAnyBytes(t *testing.T) {
	mustNotLoad(t, "nil", nil)
	mustNotLoad(t, "nothing", []byte{})
	r := rand.New(rand.NewSource(7))
	for range 20000 {
		b := make([]byte, r.Intn(200))
		r.Read(b)
		for i := range b {
			if r.Intn(4) > 0 {
				b[i] = byte(r.Intn(3))
			}
		}
		mustLoadOrRefuse(t, b)
	}
	for _, c := range []byte{0, 1, 255} {
		mustNotLoad(t, "a great many bytes", bytes.Repeat([]byte{c}, 1<<22))
	}
}

// FuzzLoad goes on from what Save gave.
func FuzzLoad(f *testing.F) {
	f.Add(tree.New().Save())
	x := tree.New()
	x.Make(of("d"), true)
	x.Make(of("d/f"), false)
	x.Write(2, 0, []byte("eff"))
	f.Add(x.Save())
	f.Fuzz(mustLoadOrRefuse)
}
