package attr_test

import (
	"math"

	"strongroom/api"
)

// field is one number of attributes: the bit of Flags that tells it, its length as bytes, and where it stands.
type field struct {
	name   string
	bit    uint32
	length int
	set    func(a *api.Attrs, n uint64)
	of     func(a api.Attrs) uint64
}

// fields are all numbers but Flags, in the order of their bytes.
func fields() []field {
	word := func(name string, bit uint32, at func(a *api.Attrs) *uint32) field {
		return field{name, bit, 4, func(a *api.Attrs, n uint64) { *at(a) = uint32(n) }, func(a api.Attrs) uint64 { return uint64(*at(&a)) }}
	}
	return []field{
		{"Size", 1, 8, func(a *api.Attrs, n uint64) { a.Size = n }, func(a api.Attrs) uint64 { return a.Size }},
		word("Uid", 2, func(a *api.Attrs) *uint32 { return &a.Uid }),
		word("Gid", 2, func(a *api.Attrs) *uint32 { return &a.Gid }),
		word("Mode", 4, func(a *api.Attrs) *uint32 { return &a.Mode }),
		word("Atime", 8, func(a *api.Attrs) *uint32 { return &a.Atime }),
		word("Mtime", 8, func(a *api.Attrs) *uint32 { return &a.Mtime }),
	}
}

// tells says whether Flags tell a field.
func (f field) tells(flags uint32) bool { return flags/f.bit%2 == 1 }

// greatest is the greatest number of a field.
func (f field) greatest() uint64 { return math.MaxUint64 >> (64 - 8*f.length) }

// wrongFlags are above 15: each bit above the lowest four by itself, with some of the lowest, with all of them, and with other ones above.
func wrongFlags() []uint32 {
	all := []uint32{math.MaxUint32, math.MaxUint32 - 15, 17, 31, 255, 256, 257, 1<<31 + 1, 1<<31 + 16}
	for bit := 4; bit < 32; bit++ {
		for _, low := range []uint32{0, 1, 2, 4, 8, 15} {
			all = append(all, 1<<bit|low)
		}
	}
	return all
}

// filled has every field set, told or not, to what n answers of it.
func filled(flags uint32, n func(f field) uint64) api.Attrs {
	a := api.Attrs{Flags: flags}
	for _, f := range fields() {
		f.set(&a, n(f))
	}
	return a
}

// toldOf answers a without what its Flags do not tell.
func toldOf(a api.Attrs) api.Attrs {
	out := api.Attrs{Flags: a.Flags}
	for _, f := range fields() {
		if f.tells(a.Flags) {
			f.set(&out, f.of(a))
		}
	}
	return out
}

// eachFilling calls look with those Flags and every filling of the fields, each at 0, at 1 and at its greatest number.
func eachFilling(flags uint32, look func(a api.Attrs)) {
	all := fields()
	for kind := range 3 * 3 * 3 * 3 * 3 * 3 {
		a := api.Attrs{Flags: flags}
		left := kind
		for _, f := range all {
			f.set(&a, []uint64{0, 1, f.greatest()}[left%3])
			left /= 3
		}
		look(a)
	}
}

// byHand is what Put must write, put together without wire.
func byHand(a api.Attrs) []byte {
	b := number(nil, uint64(a.Flags), 4)
	for _, f := range fields() {
		if f.tells(a.Flags) {
			b = number(b, f.of(a), f.length)
		}
	}
	return b
}

// number puts the bytes of n behind b, the highest first.
func number(b []byte, n uint64, length int) []byte {
	for i := length - 1; i >= 0; i-- {
		b = append(b, byte(n>>(8*i)))
	}
	return b
}

// ending is what Get must answer, and how it must leave its Reader.
type ending struct {
	a     api.Attrs
	why   api.Errno
	place int
	left  int
}

// readByHand reads b without wire, as Get must.
func readByHand(b []byte) ending {
	if len(b) < 4 {
		return ending{why: api.ErrEnd, place: len(b)}
	}
	flags, at := uint32(numberAt(b, 0, 4)), 4
	if flags > 15 {
		return ending{why: api.ErrForm, place: 4}
	}
	e := ending{a: api.Attrs{Flags: flags}}
	for _, f := range fields() {
		if !f.tells(flags) {
			continue
		}
		if at+f.length > len(b) {
			return ending{why: api.ErrEnd, place: len(b)}
		}
		f.set(&e.a, numberAt(b, at, f.length))
		at += f.length
	}
	if at < len(b) {
		e.why, e.place, e.left = api.ErrTail, at, len(b)-at
	}
	return e
}

// numberAt is the number that stands in b, the highest byte first.
func numberAt(b []byte, at, length int) uint64 {
	n := uint64(0)
	for _, c := range b[at : at+length] {
		n = n*256 + uint64(c)
	}
	return n
}

// each has another byte everywhere, so that none may stand for another one.
func each(flags uint32) api.Attrs {
	return api.Attrs{Flags: flags, Size: 0x0102030405060708, Uid: 0x11121314, Gid: 0x21222324, Mode: 0x31323334, Atime: 0x41424344, Mtime: 0x51525354}
}

// other has other bytes than each, everywhere too.
func other(flags uint32) api.Attrs {
	return api.Attrs{Flags: flags, Size: 0xf1f2f3f4f5f6f7f8, Uid: 0xe1e2e3e4, Gid: 0xd1d2d3d4, Mode: 0xc1c2c3c4, Atime: 0xb1b2b3b4, Mtime: 0xa1a2a3a4}
}
