package attr_test

import (
	"bytes"
	"encoding/hex"
	"math"
	"math/rand"
	"testing"

	"strongroom/api"
	"strongroom/attr"
	"strongroom/wire"
)

// put is what a new Writer has when a was put into it.
func put(a api.Attrs) []byte {
	w := wire.NewWriter()
	attr.Put(w, a)
	return w.Done()
}

func mustPut(t *testing.T, a api.Attrs, want []byte) {
	t.Helper()
	if got := put(a); !bytes.Equal(got, want) {
		t.Errorf("P14.1: Put of %+v: %x, want %x", a, got, want)
	}
}

func mustPutHex(t *testing.T, a api.Attrs, want string) {
	t.Helper()
	b, err := hex.DecodeString(want)
	if err != nil {
		t.Fatal(err)
	}
	mustPut(t, a, b)
}

func TestPut(t *testing.T) {
	mustPutHex(t, api.Attrs{Flags: 4, Mode: 420}, "00000004000001a4")
	mustPutHex(t, api.Attrs{}, "00000000")
	mustPutHex(t, api.Attrs{Flags: 1}, "000000010000000000000000")
	mustPutHex(t, api.Attrs{Flags: 1, Size: math.MaxUint64}, "00000001ffffffffffffffff")
	mustPutHex(t, api.Attrs{Flags: 15, Size: 1, Uid: 2, Gid: 3, Mode: 4, Atime: 5, Mtime: 6}, "0000000f00000000000000010000000200000003000000040000000500000006")
}

// putOfEach is what each(flags) is as bytes, by its Flags.
func putOfEach() []string {
	return []string{
		"00000000",
		"00000001" + "0102030405060708",
		"00000002" + "1112131421222324",
		"00000003" + "0102030405060708" + "1112131421222324",
		"00000004" + "31323334",
		"00000005" + "0102030405060708" + "31323334",
		"00000006" + "1112131421222324" + "31323334",
		"00000007" + "0102030405060708" + "1112131421222324" + "31323334",
		"00000008" + "4142434451525354",
		"00000009" + "0102030405060708" + "4142434451525354",
		"0000000a" + "1112131421222324" + "4142434451525354",
		"0000000b" + "0102030405060708" + "1112131421222324" + "4142434451525354",
		"0000000c" + "31323334" + "4142434451525354",
		"0000000d" + "0102030405060708" + "31323334" + "4142434451525354",
		"0000000e" + "1112131421222324" + "31323334" + "4142434451525354",
		"0000000f" + "0102030405060708" + "1112131421222324" + "31323334" + "4142434451525354",
	}
}

// TestPutOfEachFlags: what Flags do not tell is not written, though it is set.
func TestPutOfEachFlags(t *testing.T) {
	for flags, want := range putOfEach() {
		mustPutHex(t, each(uint32(flags)), want)
		mustPutHex(t, toldOf(each(uint32(flags))), want)
	}
}

func TestPutOfEachFilling(t *testing.T) {
	for flags := range uint32(16) {
		eachFilling(flags, func(a api.Attrs) { mustPut(t, a, byHand(a)) })
	}
}

func TestPutOfEachBit(t *testing.T) {
	for _, f := range fields() {
		for bit := range 8 * f.length {
			a := api.Attrs{Flags: 15}
			f.set(&a, 1<<bit)
			mustPut(t, a, byHand(a))
		}
	}
}

// TestPutOfWrongFlags: they are written as they are, and their lowest four bits tell what follows.
func TestPutOfWrongFlags(t *testing.T) {
	mustPutHex(t, api.Attrs{Flags: 16}, "00000010")
	mustPutHex(t, each(16), "00000010")
	mustPutHex(t, api.Attrs{Flags: 17, Size: 5}, "000000110000000000000005")
	mustPutHex(t, each(1<<31), "80000000")
	mustPutHex(t, each(1<<31+4), "8000000431323334")
	mustPutHex(t, each(math.MaxUint32), "ffffffff"+putOfEach()[15][8:])
	for _, flags := range wrongFlags() {
		mustPut(t, each(flags), byHand(each(flags)))
		mustPutHex(t, each(flags), hex.EncodeToString(number(nil, uint64(flags), 4))+putOfEach()[flags%16][8:])
	}
}

func TestPutOfMany(t *testing.T) {
	r := rand.New(rand.NewSource(2))
	for range 20000 {
		a := someAttrs(r)
		mustPut(t, a, byHand(a))
	}
}

// TestPutBehindOthers: what a Writer has stays ahead, and what is written later stands behind.
func TestPutBehindOthers(t *testing.T) {
	for flags := range uint32(32) {
		w := wire.NewWriter()
		w.Byte(7)
		w.Text("ahead")
		ahead := w.Done()
		attr.Put(w, each(flags))
		attr.Put(w, other(flags/2))
		w.Byte(9)
		want := append(bytes.Clone(ahead), byHand(each(flags))...)
		want = append(append(want, byHand(other(flags/2))...), 9)
		if got := w.Done(); !bytes.Equal(got, want) {
			t.Errorf("P14.1: Put of Flags %d and %d behind others: %x, want %x", flags, flags/2, got, want)
		}
		if string(ahead) != "\x07\x00\x00\x00\x05ahead" {
			t.Errorf("R2: Put of Flags %d changed what Done had answered: %x", flags, ahead)
		}
	}
}

func TestPutIntoNoWriter(t *testing.T) {
	for _, flags := range append(wrongFlags(), 0, 1, 2, 4, 8, 15) {
		attr.Put(nil, api.Attrs{Flags: flags})
		attr.Put(nil, each(flags))
	}
}

// someAttrs has any Flags, mostly right ones, and any numbers, told or not.
func someAttrs(r *rand.Rand) api.Attrs {
	a := api.Attrs{Flags: uint32(r.Intn(16))}
	if r.Intn(4) == 0 {
		a.Flags = r.Uint32()
	}
	for _, f := range fields() {
		f.set(&a, r.Uint64()>>r.Intn(64))
	}
	return a
}
