package tree_test

import (
	"fmt"
	"math/rand"
	"slices"
	"strings"
	"testing"

	"strongroom/api"
	"strongroom/tree"
)

// node is a thing of a model: in which one it lies, and how it is named there.
type node struct {
	id   int
	dir  bool
	in   *node
	name string
	data []byte
	told api.Attrs // without a Size
}

// model is a tree by hand: all things in one list, the root first, which is gone through anew for each question.
type model struct {
	all  []*node
	next int
}

func newModel() *model { return &model{[]*node{{dir: true, told: first(true)}}, 1} }

func (m *model) under(in *node, name string) *node {
	for _, x := range m.all {
		if x.in == in && x.name == name {
			return x
		}
	}
	return nil
}

func (m *model) at(p []string) *node {
	x := m.all[0]
	for _, name := range p {
		if x = m.under(x, name); x == nil {
			return nil
		}
	}
	return x
}

func (m *model) numbered(id int) *node {
	for _, x := range m.all {
		if x.id == id {
			return x
		}
	}
	return nil
}

func (m *model) Look(p []string) (int, api.Errno) {
	if x := m.at(p); x != nil {
		return x.id, api.OK
	}
	return 0, api.ErrNone
}

// holder answers what should hold p, and why it can't.
func (m *model) holder(p []string) (*node, api.Errno) {
	name := p[len(p)-1]
	in := m.at(p[:len(p)-1])
	switch {
	case name == "" || name == "." || name == ".." || len(name) > 30 || strings.ContainsAny(name, "\x00/"):
		return nil, api.ErrName
	case in == nil:
		return nil, api.ErrNone
	case !in.dir:
		return nil, api.ErrKind
	case m.under(in, name) != nil:
		return nil, api.ErrTaken
	}
	return in, api.OK
}

func (m *model) Make(p []string, dir bool) (int, api.Errno) {
	if len(p) == 0 {
		return 0, api.ErrArg
	}
	in, why := m.holder(p)
	if why != api.OK {
		return 0, why
	}
	if len(m.all) == 200 {
		return 0, api.ErrFull
	}
	m.all = append(m.all, &node{id: m.next, dir: dir, in: in, name: p[len(p)-1], told: first(dir)})
	m.next++
	return m.next - 1, api.OK
}

func (m *model) Remove(p []string, dir bool) api.Errno {
	x := m.at(p)
	switch {
	case len(p) == 0:
		return api.ErrArg
	case x == nil:
		return api.ErrNone
	case x.dir != dir:
		return api.ErrKind
	case slices.ContainsFunc(m.all, func(y *node) bool { return y.in == x }):
		return api.ErrUsed
	}
	m.all = slices.DeleteFunc(m.all, func(y *node) bool { return y == x })
	return api.OK
}

func (m *model) Rename(from, to []string) api.Errno {
	if len(from) == 0 || len(to) == 0 {
		return api.ErrArg
	}
	x := m.at(from)
	if x == nil {
		return api.ErrNone
	}
	in, why := m.holder(to)
	if why != api.OK {
		return why
	}
	for y := in; y != nil; y = y.in {
		if y == x {
			return api.ErrArg
		}
	}
	x.in, x.name = in, to[len(to)-1]
	return api.OK
}

func (m *model) file(id int) (*node, api.Errno) {
	x := m.numbered(id)
	if x == nil {
		return nil, api.ErrNone
	}
	if x.dir {
		return x, api.ErrKind
	}
	return x, api.OK
}

func (m *model) Read(id int, at uint64, n uint32) ([]byte, api.Errno) {
	x, why := m.file(id)
	if why != api.OK {
		return nil, why
	}
	if at >= uint64(len(x.data)) {
		return nil, api.ErrEnd
	}
	var b []byte
	for _, c := range x.data[at:] {
		if len(b) < int(n) && len(b) < 32768 {
			b = append(b, c)
		}
	}
	return b, api.OK
}

// size answers why x may not be so long.
func (m *model) size(x *node, size uint64) api.Errno {
	if size > 1<<20 {
		return api.ErrLong
	}
	if m.Bytes()-len(x.data)+int(size) > 1<<20 {
		return api.ErrFull
	}
	return api.OK
}

func (m *model) Write(id int, at uint64, b []byte) api.Errno {
	x, why := m.file(id)
	if why != api.OK || len(b) == 0 {
		return why
	}
	if at > 1<<20 {
		return api.ErrLong
	}
	if why := m.size(x, max(uint64(len(x.data)), at+uint64(len(b)))); why != api.OK {
		return why
	}
	data := make([]byte, max(len(x.data), int(at)+len(b)))
	copy(data, x.data)
	copy(data[at:], b)
	x.data = data
	return api.OK
}

func (m *model) Attrs(id int) (api.Attrs, api.Errno) {
	x := m.numbered(id)
	if x == nil {
		return api.Attrs{}, api.ErrNone
	}
	a := x.told
	a.Size = uint64(len(x.data))
	return a, api.OK
}

func (m *model) Set(id int, by api.Attrs) api.Errno {
	x, why := m.file(id)
	if why == api.ErrNone {
		return why
	}
	if by.Flags > 15 || by != zeroed(by, ^by.Flags) {
		return api.ErrArg
	}
	if by.Flags&1 != 0 {
		if why == api.OK {
			why = m.size(x, by.Size)
		}
		if why != api.OK {
			return why
		}
		data := make([]byte, by.Size)
		copy(data, x.data)
		x.data = data
	}
	if by.Flags&2 != 0 {
		x.told.Uid, x.told.Gid = by.Uid, by.Gid
	}
	if by.Flags&4 != 0 {
		x.told.Mode = by.Mode
	}
	if by.Flags&8 != 0 {
		x.told.Atime, x.told.Mtime = by.Atime, by.Mtime
	}
	return api.OK
}

func (m *model) List(id int) ([]api.Name, api.Errno) {
	x, why := m.file(id)
	if why == api.OK {
		return nil, api.ErrKind
	}
	if why == api.ErrNone {
		return nil, why
	}
	var l []api.Name
	for _, y := range m.all {
		if y.in == x {
			a, _ := m.Attrs(y.id)
			l = append(l, api.Name{Name: y.name, Attrs: a})
		}
	}
	slices.SortFunc(l, func(a, b api.Name) int { return strings.Compare(a.Name, b.Name) })
	return l, api.OK
}

func (m *model) Dir(id int) bool {
	_, why := m.file(id)
	return why == api.ErrKind
}

func (m *model) Count() int { return len(m.all) }

func (m *model) Bytes() int {
	sum := 0
	for _, x := range m.all {
		sum += len(x.data)
	}
	return sum
}

// step is one call, and what it answers as a text.
type step func(s files) string

func somePath(r *rand.Rand) []string {
	var p []string
	for range r.Intn(5) {
		p = append(p, []string{"a", "b", "c", "ab"}[r.Intn(4)])
	}
	if r.Intn(12) == 0 {
		p = append(p, wrongNames()[r.Intn(len(wrongNames()))])
	}
	return p
}

func someAttrs(r *rand.Rand) api.Attrs {
	a := told(uint32(r.Intn(17)))
	if a.Flags&1 != 0 {
		a.Size = somePlace(r)
	}
	if r.Intn(9) == 0 {
		a.Uid = r.Uint32()
	}
	a.Mode += a.Flags & 4 * uint32(r.Intn(9))
	return a
}

// somePlace is mostly small, at times at a bound or beyond it.
func somePlace(r *rand.Rand) uint64 {
	switch r.Intn(20) {
	case 0:
		return 1<<20 - uint64(r.Intn(30))
	case 1:
		return 1<<20 + uint64(r.Intn(30)) - 15
	case 2:
		return r.Uint64()
	}
	return uint64(r.Intn(20))
}

// number is that of what lies at p, else id.
func number(s files, p []string, id int) int {
	if there, why := s.Look(p); why == api.OK {
		return there
	}
	return id
}

func someStep(r *rand.Rand) step {
	p, to, dir, id, at, n := somePath(r), somePath(r), r.Intn(2) == 0, r.Intn(14)-1, somePlace(r), uint32(somePlace(r))
	b := []byte("0123456789abcdefghij"[:r.Intn(20)])
	by := someAttrs(r)
	switch r.Intn(12) {
	case 0:
		return func(s files) string { return fmt.Sprint("Look ", p, ": ", fmt.Sprint(s.Look(p))) }
	case 1, 2, 3:
		return func(s files) string { return fmt.Sprint("Make ", p, dir, ": ", fmt.Sprint(s.Make(p, dir))) }
	case 4, 5:
		return func(s files) string { return fmt.Sprint("Remove ", p, dir, ": ", s.Remove(p, dir)) }
	case 6, 7:
		return func(s files) string { return fmt.Sprint("Rename ", p, to, ": ", s.Rename(p, to)) }
	case 8:
		return func(s files) string {
			return fmt.Sprint("Read ", p, at, n, ": ", fmt.Sprint(s.Read(number(s, p, id), at, n)))
		}
	case 9:
		return func(s files) string { return fmt.Sprint("Write ", p, at, b, ": ", s.Write(number(s, p, id), at, b)) }
	case 10:
		return func(s files) string { return fmt.Sprint("Set ", p, by, ": ", s.Set(number(s, p, id), by)) }
	}
	return func(s files) string { return tell(s, 20) }
}

// TestManyCalls holds a tree against the model, and at times goes on with one that was saved and loaded.
func TestManyCalls(t *testing.T) {
	r := rand.New(rand.NewSource(2))
	for range 300 {
		x, m := tree.New(), newModel()
		for range r.Intn(200) {
			do := someStep(r)
			if got, want := do(x), do(m); got != want {
				t.Fatalf("P15.1 to P15.3: %s\nwant %s", got, want)
			}
			if r.Intn(30) == 0 {
				x = mustLoadAgain(t, x)
			}
		}
		if got, want := tell(x, 60), tell(m, 60); got != want {
			t.Fatalf("P15.1 to P15.3: %s\nwant %s", got, want)
		}
		if next := nextOf(t, x); next != m.next {
			t.Fatalf("P15.1: the next number: %d, want %d", next, m.next)
		}
	}
}

// TestManyCallsOfAFullTree: where MaxNodes things are, or nearly so.
func TestManyCallsOfAFullTree(t *testing.T) {
	r := rand.New(rand.NewSource(3))
	x, m := tree.New(), newModel()
	for i := range 190 {
		do := func(s files) string { return fmt.Sprint(s.Make([]string{fmt.Sprint("n", i)}, false)) }
		if do(x) != do(m) {
			t.Fatal("P15.1")
		}
	}
	full := false
	for range 6000 {
		do := someStep(r)
		if got, want := do(x), do(m); got != want {
			t.Fatalf("P15.1 to P15.3: %s\nwant %s", got, want)
		}
		full = full || x.Count() == 200
	}
	if !full {
		t.Error("the tree was never full")
	}
	mustLoadAgain(t, x)
}
