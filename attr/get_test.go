package attr_test

import (
	"encoding/hex"
	"math/rand"
	"testing"

	"strongroom/api"
	"strongroom/attr"
	"strongroom/wire"
)

// mustGet reads b at the beginning, and again behind three bytes, where places are three further on.
func mustGet(t *testing.T, b []byte, want ending) {
	t.Helper()
	for _, ahead := range []string{"", "\xff\xff\xff"} {
		r := wire.NewReader(append([]byte(ahead), b...))
		r.Raw(len(ahead))
		if want.why != api.OK {
			want.place += len(ahead)
		}
		mustEnd(t, r, b, want)
	}
}

// mustEnd asks a Reader of b.
func mustEnd(t *testing.T, r *wire.Reader, b []byte, want ending) {
	t.Helper()
	got := ending{a: attr.Get(r), left: r.Left()}
	got.why, got.place = r.End()
	if got != want {
		t.Errorf("P14.1: Get of %x: %+v, want %+v", b, got, want)
	}
}

func TestGet(t *testing.T) {
	mustGet(t, []byte("\xff\xff\xff\xff"), ending{why: api.ErrForm, place: 4})
	mustGet(t, []byte("\x00\x00\x00\x04\x00\x00\x01\xa4"), ending{a: api.Attrs{Flags: 4, Mode: 420}})
	mustGet(t, []byte("\x00\x00\x00\x00"), ending{})
	mustGet(t, nil, ending{why: api.ErrEnd})
	mustGet(t, []byte("\x00\x00\x00\x08\x00\x00\x00\x07\x00\x00\x00\x09more"), ending{api.Attrs{Flags: 8, Atime: 7, Mtime: 9}, api.ErrTail, 12, 4})
}

// TestGetOfEachFlags: bytes that were written by hand, with nothing behind them and with some.
func TestGetOfEachFlags(t *testing.T) {
	for flags, s := range putOfEach() {
		b, err := hex.DecodeString(s)
		if err != nil {
			t.Fatal(err)
		}
		want := ending{a: toldOf(each(uint32(flags)))}
		mustGet(t, b, want)
		want.why, want.place, want.left = api.ErrTail, len(b), 1
		mustGet(t, append(b, 0xff), want)
	}
}

// TestGetOfPut: what Flags do not tell was not written, so it is 0.
func TestGetOfPut(t *testing.T) {
	for flags := range uint32(16) {
		eachFilling(flags, func(a api.Attrs) {
			got := toldOf(a)
			mustGet(t, put(a), ending{a: got})
			mustBeRight(t, got, true)
		})
	}
	r := rand.New(rand.NewSource(3))
	for range 20000 {
		a := someAttrs(r)
		a.Flags %= 16
		mustGet(t, put(a), ending{a: toldOf(a)})
	}
}

// TestGetReadsOn: what stands behind is read by the calls behind.
func TestGetReadsOn(t *testing.T) {
	for flags := range uint32(16) {
		for next := range uint32(16) {
			w := wire.NewWriter()
			w.Text("ahead")
			attr.Put(w, each(flags))
			attr.Put(w, other(next))
			w.Text("behind")
			r := wire.NewReader(w.Done())
			ahead := r.Text(9)
			first, second := attr.Get(r), attr.Get(r)
			behind := r.Text(9)
			why, place := r.End()
			if ahead != "ahead" || first != toldOf(each(flags)) || second != toldOf(other(next)) || behind != "behind" || why != api.OK || place != 0 {
				t.Errorf("P14.1: Flags %d and %d: %q %+v %+v %q, %v at %d", flags, next, ahead, first, second, behind, why, place)
			}
		}
	}
}

// TestGetOfCutBytes: at each place, so that Flags or what they tell are not there as a whole.
func TestGetOfCutBytes(t *testing.T) {
	for flags := range uint32(16) {
		for _, a := range []api.Attrs{each(flags), filled(flags, field.greatest), {Flags: flags}} {
			whole := byHand(a)
			for n := range whole {
				mustGet(t, whole[:n], ending{why: api.ErrEnd, place: n})
			}
		}
	}
}

// TestGetOfWrongFlags: the place is behind them, whether what they would tell is there or not.
func TestGetOfWrongFlags(t *testing.T) {
	for _, flags := range wrongFlags() {
		whole := byHand(each(flags))
		for n := 4; n <= len(whole); n++ {
			mustGet(t, whole[:n], ending{why: api.ErrForm, place: 4})
		}
		mustGet(t, append(whole, "more"...), ending{why: api.ErrForm, place: 4})
		for n := range 4 {
			mustGet(t, whole[:n], ending{why: api.ErrEnd, place: n})
		}
	}
}

// TestGetBehindARefusal: whatever the refusal, it stays, and so does its place.
func TestGetBehindARefusal(t *testing.T) {
	for _, why := range []api.Errno{api.ErrArg, api.ErrLong, api.ErrMany, api.ErrEnd, api.ErrTail, api.ErrForm, api.ErrFull, api.ErrMac, api.ErrName, api.ErrPast, 99, -1} {
		for flags := range uint32(17) {
			b := append([]byte("ab"), byHand(each(flags))...)
			for n := range len(b) + 1 {
				r := wire.NewReader(b)
				r.Raw(n)
				r.Fail(why)
				mustEnd(t, r, b, ending{why: why, place: n})
				mustEnd(t, r, b, ending{why: why, place: n})
			}
		}
	}
}

// TestGetBehindOtherRefusals: those that the Reader found itself.
func TestGetBehindOtherRefusals(t *testing.T) {
	b := append([]byte("\x00\x00\x00\x05abcde"), byHand(each(15))...)
	r := wire.NewReader(b)
	r.Text(4)
	mustEnd(t, r, b, ending{why: api.ErrLong})
	r = wire.NewReader(b)
	r.Raw(len(b) + 1)
	mustEnd(t, r, b, ending{why: api.ErrEnd, place: len(b)})
	r = wire.NewReader(b)
	r.Byte()
	r.Names()
	mustEnd(t, r, b, ending{why: api.ErrLong, place: 1})
}

// TestGetFailsOnce: no call behind Get's refusal answers anything, nor is refused another way.
func TestGetFailsOnce(t *testing.T) {
	for _, b := range [][]byte{append(byHand(each(16)), byHand(each(15))...), append(byHand(each(31)), 0, 0, 0, 0), byHand(each(15))[:31]} {
		r := wire.NewReader(b)
		want := readByHand(b)
		mustEnd(t, r, b, want)
		mustEnd(t, r, b, want)
		r.Fail(api.ErrArg)
		if r.U32() != 0 || len(r.Rest()) != 0 {
			t.Errorf("P14.1: Get of %x: something is read behind its refusal", b)
		}
		mustEnd(t, r, b, want)
	}
}

// TestGetBehindFailOfOK: that is no refusal.
func TestGetBehindFailOfOK(t *testing.T) {
	for flags := range uint32(17) {
		b := byHand(each(flags))
		r := wire.NewReader(b)
		r.Fail(api.OK)
		mustEnd(t, r, b, readByHand(b))
	}
}

func TestGetOfNoReader(t *testing.T) {
	if got := attr.Get(nil); got != (api.Attrs{}) {
		t.Errorf("P14.1: Get of none: %+v", got)
	}
}

// TestGetOfAnyBytes: mostly with Flags that are right, for others are refused at once.
func TestGetOfAnyBytes(t *testing.T) {
	r := rand.New(rand.NewSource(4))
	for range 50000 {
		b := make([]byte, r.Intn(45))
		r.Read(b)
		if len(b) > 3 && r.Intn(8) > 0 {
			copy(b, []byte{0, 0, 0, byte(r.Intn(18))})
		}
		mustGet(t, b, readByHand(b))
	}
}
