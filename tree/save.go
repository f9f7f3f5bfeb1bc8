package tree

import (
	"math"
	"slices"

	"strongroom/api"
	"strongroom/attr"
	"strongroom/path"
	"strongroom/wire"
)

// mostNext is the greatest next number that Load takes: from there on nobody makes so many things that an int has no number for them.
const mostNext = math.MaxInt / 2

// Save answers the tree as bytes: the next number, and the root as save writes it.
func (t *Tree) Save() []byte {
	w := wire.NewWriter()
	w.U64(uint64(t.next))
	t.things[0].save(w)
	return w.Done()
}

// Load answers the tree of which Save gave b.
func Load(b []byte) (*Tree, api.Errno) {
	r := wire.NewReader(b)
	next := r.U64()
	if next > mostNext {
		return nil, api.ErrForm
	}
	t := &Tree{next: int(next)}
	root, ok := t.load(r)
	if !ok || root.id != 0 || !root.dir || !t.reachesNext() {
		return nil, api.ErrForm
	}
	if why, _ := r.End(); why != api.OK {
		return nil, api.ErrForm
	}
	return t, api.OK
}

// save writes a thing: its number, its kind, its attributes, its bytes, and what it holds in order, each behind its name.
func (x *thing) save(w *wire.Writer) {
	w.U64(uint64(x.id))
	w.Bool(x.dir)
	attr.Put(w, x.attrs)
	w.Raw(x.data)
	w.U32(uint32(len(x.held)))
	for _, e := range x.held {
		w.Text(e.name)
		e.thing.save(w)
	}
}

// load reads what save wrote, and puts it among all things; false, if no save wrote it so.
// Behind a refusal of r all is zero and empty: whoever called load asks r's End.
func (t *Tree) load(r *wire.Reader) (*thing, bool) {
	id, kind := r.U64(), r.Byte()
	x := &thing{id: int(id), dir: kind == 1, attrs: attr.Get(r)}
	if id >= uint64(t.next) || kind > 1 || x.attrs.Flags != tellsAll {
		return nil, false
	}
	if !t.remember(x) || !t.loadData(x, r) || !t.loadHeld(x, r) {
		return nil, false
	}
	return x, true
}

// remember puts x among all things.
func (t *Tree) remember(x *thing) bool {
	at, had := t.place(x.id)
	if had || len(t.things) >= api.MaxNodes {
		return false
	}
	t.things = slices.Insert(t.things, at, x)
	return true
}

func (t *Tree) loadData(x *thing, r *wire.Reader) bool {
	size := x.attrs.Size
	if x.dir {
		return size == 0
	}
	if t.mayHave(x, size) != api.OK {
		return false
	}
	x.data = r.Raw(int(size))
	t.bytes += len(x.data)
	return true
}

func (t *Tree) loadHeld(x *thing, r *wire.Reader) bool {
	n := r.U32()
	if !x.dir {
		return n == 0
	}
	before := ""
	for range n {
		name := r.Text(api.MaxName)
		if !path.Right(name) || name <= before {
			return false
		}
		y, ok := t.load(r)
		if !ok {
			return false
		}
		x.held = append(x.held, entry{name, y})
		before = name
	}
	return true
}

// reachesNext says whether Make could ever have come to the next number: while there are MaxNodes things, no number is given away, so none lies between the greatest of theirs and the next one.
func (t *Tree) reachesNext() bool {
	return len(t.things) < api.MaxNodes || t.next == t.things[len(t.things)-1].id+1
}
