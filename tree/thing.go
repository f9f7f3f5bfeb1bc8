package tree

import (
	"slices"
	"strings"

	"strongroom/api"
)

const (
	// What the bits of an api.Attrs' Flags tell.
	tellsSize = 1
	tellsAll  = 15

	firstModeOfFile = 33188
	firstModeOfDir  = 16877
)

// thing is a file or a directory.
type thing struct {
	id    int
	dir   bool
	attrs api.Attrs // Flags tellsAll, and the Size is that of data
	data  []byte    // none of a directory
	held  []entry   // in the order of their names' bytes; none of a file
}

// entry is what lies in a directory under a name.
type entry struct {
	name  string
	thing *thing
}

func newThing(id int, dir bool) *thing {
	x := &thing{id: id, dir: dir, attrs: api.Attrs{Flags: tellsAll, Mode: firstModeOfFile}}
	if dir {
		x.attrs.Mode = firstModeOfDir
	}
	return x
}

// place answers where that name is, or would be, among those of a directory.
func (x *thing) place(name string) (int, bool) {
	return slices.BinarySearchFunc(x.held, name, func(e entry, name string) int { return strings.Compare(e.name, name) })
}

// get answers what has that name, or nil.
func (x *thing) get(name string) *thing {
	at, ok := x.place(name)
	if !ok {
		return nil
	}
	return x.held[at].thing
}

// put gives y a name that is free. The name is a copy: it lies in the memory of what was handed in.
func (x *thing) put(name string, y *thing) {
	at, _ := x.place(name)
	x.held = slices.Insert(x.held, at, entry{strings.Clone(name), y})
}

// drop makes a name free.
func (x *thing) drop(name string) {
	at, ok := x.place(name)
	if ok {
		x.held = slices.Delete(x.held, at, at+1)
	}
}
