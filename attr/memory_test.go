package attr_test

import (
	"bytes"
	"testing"

	"strongroom/api"
	"strongroom/attr"
	"strongroom/wire"
)

// TestGetLeavesBytes: neither the bytes that a Reader was made of nor their spare room are changed.
func TestGetLeavesBytes(t *testing.T) {
	for flags := range uint32(17) {
		b := append(byHand(each(flags)), "behind"...)
		before := bytes.Clone(b)
		for n := range len(b) + 1 {
			mustGet(t, b[:n:n], readByHand(b[:n]))
			attr.Get(wire.NewReader(b[:n]))
			if !bytes.Equal(b, before) {
				t.Fatalf("R2: Get of %d bytes of Flags %d changed them", n, flags)
			}
		}
	}
}

// TestPutLeavesOtherWriters: two Writers have each what was put into it.
func TestPutLeavesOtherWriters(t *testing.T) {
	v, w := wire.NewWriter(), wire.NewWriter()
	attr.Put(v, each(15))
	attr.Put(w, other(6))
	attr.Put(v, each(4))
	if got, want := v.Done(), append(byHand(each(15)), byHand(each(4))...); !bytes.Equal(got, want) {
		t.Errorf("P14.1: the first Writer: %x, want %x", got, want)
	}
	if got, want := w.Done(), byHand(other(6)); !bytes.Equal(got, want) {
		t.Errorf("P14.1: the second Writer: %x, want %x", got, want)
	}
}

// TestKeepsNothing: what was asked ahead, refusals too, does not matter.
func TestKeepsNothing(t *testing.T) {
	for flags := range uint32(17) {
		for ahead := range uint32(17) {
			attr.Right(other(ahead))
			put(other(ahead))
			mustGet(t, byHand(other(ahead)), readByHand(byHand(other(ahead))))
			attr.Merge(other(ahead), other(ahead))
			mustBeRight(t, toldOf(each(flags)), flags <= 15)
			mustPut(t, each(flags), byHand(each(flags)))
			mustGet(t, byHand(each(flags)), readByHand(byHand(each(flags))))
			mustMerge(t, api.Attrs{}, each(flags), toldOf(each(flags)))
		}
	}
}
