package tree_test

import (
	"fmt"
	"math"
	"strings"
	"testing"

	"strongroom/api"
	"strongroom/tree"
)

// TestExampleOne is the chapter's: noughts stand ahead of what was written.
func TestExampleOne(t *testing.T) {
	x := filled(t, "f")
	mustWrite(t, x, 1, 5, "abc")
	mustRead(t, x, 1, 0, 99, "\x00\x00\x00\x00\x00abc")
	mustCount(t, x, 2, 8)
}

// TestExampleTwo is the chapter's.
func TestExampleTwo(t *testing.T) {
	mustNotRename(t, filled(t, "a"), api.ErrTaken, "a", "a")
	mustNotRename(t, filled(t, "a/"), api.ErrTaken, "a", "a")
}

func TestRead(t *testing.T) {
	const all = "0123456789"
	x := filled(t, "g=beside", "f="+all, "h=beside")
	for at := range uint64(14) {
		for _, n := range []uint32{0, 1, 2, 9, 10, 11, 32768, 32769, 1 << 31, math.MaxUint32} {
			if at >= 10 {
				mustNotRead(t, x, api.ErrEnd, 2, at, n)
				continue
			}
			mustRead(t, x, 2, at, n, all[at:min(10, at+uint64(n))])
		}
	}
	for _, at := range []uint64{1 << 20, 1 << 31, 1 << 32, 1<<32 + 1, 1 << 63, math.MaxUint64 - 1, math.MaxUint64} {
		mustNotRead(t, x, api.ErrEnd, 2, at, 0)
		mustNotRead(t, x, api.ErrEnd, 2, at, 1)
		mustNotRead(t, x, api.ErrEnd, 2, at, math.MaxUint32)
	}
}

func TestReadOfAnEmptyFile(t *testing.T) {
	x := filled(t, "f")
	for _, n := range []uint32{0, 1, math.MaxUint32} {
		mustNotRead(t, x, api.ErrEnd, 1, 0, n)
		mustNotRead(t, x, api.ErrEnd, 1, math.MaxUint64, n)
	}
}

// someBytes are n bytes of which none repeats soon.
func someBytes(n int) string {
	b := make([]byte, n)
	for i := range b {
		b[i] = byte(i ^ i>>7 ^ i>>13 + 1)
	}
	return string(b)
}

func TestReadAtMost(t *testing.T) {
	all := someBytes(3*32768 + 7)
	x := filled(t, "f="+all)
	for _, n := range []uint32{32767, 32768, 32769, 65536, math.MaxUint32} {
		for _, at := range []uint64{0, 1, 32768, 65536, 65542, 65543, 65544, 98304, 98310} {
			mustRead(t, x, 1, at, n, all[at:min(uint64(len(all)), at+min(uint64(n), 32768))])
		}
	}
}

// noFiles are numbers of nothing in a tree that has three things and had four, and of its directories, each with what it is refused with.
func noFiles() map[int]api.Errno {
	return map[int]api.Errno{
		0: api.ErrKind, 1: api.ErrKind, 3: api.ErrNone, 4: api.ErrNone, 5: api.ErrNone, 200: api.ErrNone, 1 << 32: api.ErrNone, math.MaxInt: api.ErrNone,
		-1: api.ErrNone, -2: api.ErrNone, -3: api.ErrNone, math.MinInt: api.ErrNone, math.MinInt + 1: api.ErrNone, math.MinInt + 2: api.ErrNone,
	}
}

// fewFiles has two things, 1 and 2, beside the root, and had a third one.
func fewFiles(t *testing.T) *tree.Tree {
	t.Helper()
	x := filled(t, "d/", "f=eff", "gone=bytes")
	mustRemove(t, x, "gone", false)
	return x
}

func TestReadAndWriteOfNoFile(t *testing.T) {
	x := fewFiles(t)
	for id, why := range noFiles() {
		for _, at := range []uint64{0, 1, 1 << 20, math.MaxUint64} {
			mustNotRead(t, x, why, id, at, 0)
			mustNotRead(t, x, why, id, at, 9)
			mustNotWrite(t, x, why, id, at, "")
			mustNotWrite(t, x, why, id, at, "x")
		}
		mustNotWrite(t, x, why, id, 0, strings.Repeat("x", 1<<20+1))
	}
	mustRead(t, x, 2, 0, 9, "eff")
	mustCount(t, x, 3, 3)
}

// TestWrite: at each place of a file of five bytes, and behind them.
func TestWrite(t *testing.T) {
	for at := range 9 {
		for n := range 9 {
			x := filled(t, "a=beside", "f=01234", "z=beside")
			s := "abcdefghi"[:n]
			mustWrite(t, x, 2, uint64(at), s)
			want := []byte("01234")
			for i := range n {
				for len(want) <= at+i {
					want = append(want, 0)
				}
				want[at+i] = s[i]
			}
			mustRead(t, x, 2, 0, 99, string(want))
			mustCount(t, x, 4, 12+len(want))
			mustRead(t, x, 1, 0, 99, "beside")
			mustRead(t, x, 3, 0, 99, "beside")
			mustHave(t, x, 2, api.Attrs{Flags: 15, Size: uint64(len(want)), Mode: 33188})
		}
	}
}

// TestWriteOfNothing: wherever it is, nothing is refused and nothing comes to be.
func TestWriteOfNothing(t *testing.T) {
	x := filled(t, "f=eff", "e")
	before := string(x.Save())
	for _, at := range []uint64{0, 2, 3, 4, 1 << 20, 1<<20 + 1, math.MaxUint64 - 1, math.MaxUint64} {
		for id := 1; id <= 2; id++ {
			mustWrite(t, x, id, at, "")
			if why := x.Write(id, at, nil); why != api.OK || string(x.Save()) != before {
				t.Errorf("P15.2: Write of nothing at %d: %v", at, why)
			}
		}
	}
	mustCount(t, x, 3, 3)
}

func TestWriteOfOneFileAtMost(t *testing.T) {
	const most = 1 << 20
	for _, at := range []uint64{0, 1, most / 2, most - 1} {
		x := filled(t, "f")
		whole := someBytes(most - int(at))
		mustNotWrite(t, x, api.ErrLong, 1, at, whole+"x")
		mustNotWrite(t, x, api.ErrLong, 1, at+1, whole)
		mustWrite(t, x, 1, at, whole)
		mustCount(t, x, 2, most)
		all := strings.Repeat("\x00", int(at)) + whole
		mustRead(t, x, 1, 0, 32768, all[:32768])
		mustRead(t, x, 1, most/2-9, 99, all[most/2-9:][:99])
		mustRead(t, x, 1, most-9, 99, all[most-9:])
		mustNotWrite(t, x, api.ErrLong, 1, most, "x")
		mustNotWrite(t, x, api.ErrLong, 1, most-1, "xy")
		mustWrite(t, x, 1, most-1, "z")
		mustRead(t, x, 1, most-1, 9, "z")
	}
}

// TestWriteFarBeyond: no sum of where and how much goes round.
func TestWriteFarBeyond(t *testing.T) {
	x := filled(t, "f=eff")
	for _, at := range []uint64{1 << 20, 1<<20 + 1, 1 << 31, 1 << 32, 1<<32 + 1, 1 << 63, 1<<63 - 1, math.MaxUint64 - 3, math.MaxUint64 - 2, math.MaxUint64 - 1, math.MaxUint64} {
		mustNotWrite(t, x, api.ErrLong, 1, at, "x")
		mustNotWrite(t, x, api.ErrLong, 1, at, "abcd")
	}
	mustNotWrite(t, x, api.ErrLong, 1, 0, strings.Repeat("x", 1<<20+1))
	mustNotWrite(t, x, api.ErrLong, 1, 1, strings.Repeat("x", 1<<20))
}

// TestWriteOfAllFilesAtMost: what is written over what was there asks for no room.
func TestWriteOfAllFilesAtMost(t *testing.T) {
	const most = 1 << 20
	x := filled(t, "f=eff", "g", "d/", "d/h")
	mustWrite(t, x, 4, 0, someBytes(most-10))
	mustNotWrite(t, x, api.ErrFull, 2, 0, "12345678")
	mustNotWrite(t, x, api.ErrFull, 2, 7, "8")
	mustNotWrite(t, x, api.ErrFull, 1, 3, "12345678")
	mustNotWrite(t, x, api.ErrFull, 4, most-10, "12345678")
	mustNotWrite(t, x, api.ErrFull, 1, 0, strings.Repeat("x", most))
	mustNotWrite(t, x, api.ErrLong, 1, 0, strings.Repeat("x", most+1))
	mustNotWrite(t, x, api.ErrLong, 2, most, "x")
	mustWrite(t, x, 2, 6, "7")
	mustCount(t, x, 5, most)
	for id, at := range map[int]uint64{1: 3, 2: 7, 4: most - 10} {
		mustNotWrite(t, x, api.ErrFull, id, at, "x")
		mustNotWrite(t, x, api.ErrFull, id, at-1, "xy")
		mustWrite(t, x, id, at-1, "x")
		mustWrite(t, x, id, at, "")
	}
	mustLoadAgain(t, x)
	mustRemove(t, x, "f", false)
	mustCount(t, x, 4, most-3)
	mustNotWrite(t, x, api.ErrFull, 2, 7, "1234")
	mustWrite(t, x, 2, 7, "123")
	mustRead(t, x, 2, 0, 99, "\x00\x00\x00\x00\x00\x00x123")
}

// TestManyWrites: many files that each grow by turns.
func TestManyWrites(t *testing.T) {
	x := tree.New()
	for id := 1; id < 200; id++ {
		mustMake(t, x, fmt.Sprint(id), false, id)
	}
	sum := 0
	for round := range 20 {
		for id := 1; id < 200; id++ {
			s := strings.Repeat(string([]byte{byte(id)}), id)
			mustWrite(t, x, id, uint64(round*id), s)
			sum += id
			mustCount(t, x, 200, sum)
		}
	}
	for id := 1; id < 200; id++ {
		mustRead(t, x, id, 0, 9999, strings.Repeat(string([]byte{byte(id)}), 20*id))
	}
	mustLoadAgain(t, x)
}
