package tree

import (
	"slices"
	"strings"

	"strongroom/api"
	"strongroom/attr"
)

// Read answers the bytes of a file from at on, n and MaxData at most.
func (t *Tree) Read(id int, at uint64, n uint32) ([]byte, api.Errno) {
	x, why := t.file(id)
	if why != api.OK {
		return nil, why
	}
	if at >= x.attrs.Size {
		return nil, api.ErrEnd
	}
	end := at + min(x.attrs.Size-at, api.MaxData, uint64(n))
	return slices.Clone(x.data[at:end]), api.OK
}

// Write puts b into a file from at on.
func (t *Tree) Write(id int, at uint64, b []byte) api.Errno {
	x, why := t.file(id)
	if why != api.OK {
		return why
	}
	if len(b) == 0 {
		return api.OK
	}
	// Past MaxBytes it does not matter how far, and the sum stays a small number.
	end := min(at, api.MaxBytes) + uint64(len(b))
	if why := t.mayHave(x, end); why != api.OK {
		return why
	}
	if end > x.attrs.Size {
		t.resize(x, end)
	}
	copy(x.data[at:], b)
	return api.OK
}

// Attrs answers all that is told of a thing.
func (t *Tree) Attrs(id int) (api.Attrs, api.Errno) {
	x := t.find(id)
	if x == nil {
		return api.Attrs{}, api.ErrNone
	}
	return x.attrs, api.OK
}

// Set makes all that by tells so.
func (t *Tree) Set(id int, by api.Attrs) api.Errno {
	x := t.find(id)
	if x == nil {
		return api.ErrNone
	}
	if !attr.Right(by) {
		return api.ErrArg
	}
	if by.Flags&tellsSize != 0 {
		if x.dir {
			return api.ErrKind
		}
		if why := t.mayHave(x, by.Size); why != api.OK {
			return why
		}
		t.resize(x, by.Size)
	}
	x.attrs = attr.Merge(x.attrs, by)
	return api.OK
}

// List answers all that lies in a directory, in the order of the names' bytes.
func (t *Tree) List(id int) ([]api.Name, api.Errno) {
	x := t.find(id)
	if x == nil {
		return nil, api.ErrNone
	}
	if !x.dir {
		return nil, api.ErrKind
	}
	var l []api.Name
	for _, e := range x.held {
		l = append(l, api.Name{Name: strings.Clone(e.name), Attrs: e.thing.attrs})
	}
	return l, api.OK
}

// Dir tells whether there is a directory of that number.
func (t *Tree) Dir(id int) bool {
	x := t.find(id)
	return x != nil && x.dir
}

// Count tells how many things there are, the root too.
func (t *Tree) Count() int { return len(t.things) }

// Bytes tells how many bytes all files have together.
func (t *Tree) Bytes() int { return t.bytes }

// file answers the file of that number.
func (t *Tree) file(id int) (*thing, api.Errno) {
	x := t.find(id)
	if x == nil {
		return nil, api.ErrNone
	}
	if x.dir {
		return nil, api.ErrKind
	}
	return x, api.OK
}

// mayHave tells why the file x may not be of that size.
func (t *Tree) mayHave(x *thing, size uint64) api.Errno {
	if size > api.MaxBytes {
		return api.ErrLong
	}
	if t.bytes-len(x.data)+int(size) > api.MaxBytes {
		return api.ErrFull
	}
	return api.OK
}

// resize cuts a file off, or puts noughts behind it, so that it is of a size that it may have.
func (t *Tree) resize(x *thing, size uint64) {
	t.bytes -= len(x.data)
	if size > x.attrs.Size {
		x.data = append(x.data, make([]byte, size-x.attrs.Size)...)
	} else {
		// A copy, so that room for what was cut off is not kept.
		x.data = slices.Clone(x.data[:size])
	}
	x.attrs.Size = size
	t.bytes += len(x.data)
}
