package chans_test

import (
	"math/rand"
	"slices"
	"testing"

	"strongroom/api"
	"strongroom/chans"
)

// line is a channel as the chapter's words say it, with windows that are plain numbers.
type line struct {
	theirs, window, most, ours int
	opened, ended, shut        bool
	waits                      string
}

// model is a Mux as the chapter's words say it one by one, with a reading of its own.
type model struct {
	lines [4]*line
	dead  bool
}

// cut parts a U32 from what stands behind it.
func cut(s string) (int, string, bool) {
	if len(s) < 4 {
		return 0, "", false
	}
	return int(s[0])<<24 | int(s[1])<<16 | int(s[2])<<8 | int(s[3]), s[4:], true
}

// cutText parts a Text of so many bytes at most.
func cutText(s string, most int) (string, string, bool) {
	n, rest, ok := cut(s)
	if !ok || n > most || n > len(rest) {
		return "", "", false
	}
	return rest[:n], rest[n:], true
}

func (m *model) line(ch int) *line {
	if ch < 0 || ch > 3 {
		return nil
	}
	return m.lines[ch]
}

// goes is what may go now of what waits.
func (x *line) goes() []string {
	var out []string
	for x.waits != "" && x.window > 0 {
		n := min(len(x.waits), x.window, x.most)
		out = append(out, data(uint32(x.theirs), x.waits[:n]))
		x.waits = x.waits[n:]
		x.window -= n
	}
	return out
}

func (m *model) do(payload string) ([]string, []chans.Event) {
	if m.dead || payload == "" {
		return nil, nil
	}
	answers, events, ok := m.try(payload[0], payload[1:])
	if !ok {
		m.dead = true
		return list(bye2), nil
	}
	return answers, events
}

func (m *model) try(kind byte, rest string) ([]string, []chans.Event, bool) {
	switch kind {
	case 1:
		m.dead = true
		return nil, nil, true
	case 2, 3, 4:
		return nil, nil, true
	case 90:
		return m.opening(rest)
	}
	ch, rest, ok := cut(rest)
	x := m.line(ch)
	if !ok || x == nil {
		return nil, nil, false
	}
	switch kind {
	case 93:
		n, rest, ok := cut(rest)
		if !ok || rest != "" || x.window+n > 1<<32-1 {
			return nil, nil, false
		}
		x.window += n
		return x.goes(), nil, true
	case 94:
		return x.data(ch, rest)
	case 96:
		if rest != "" || x.ended {
			return nil, nil, false
		}
		x.ended = true
		return nil, []chans.Event{event(chans.Ended, ch)}, true
	case 97:
		if rest != "" {
			return nil, nil, false
		}
		m.lines[ch] = nil
		if x.shut {
			return nil, []chans.Event{event(chans.Gone, ch)}, true
		}
		return list(closing(uint32(x.theirs))), []chans.Event{event(chans.Gone, ch)}, true
	case 98:
		return x.request(ch, rest)
	}
	return nil, nil, false
}

func (m *model) opening(rest string) ([]string, []chans.Event, bool) {
	kind, rest, ok := cutText(rest, 64)
	var n [3]int
	for i := range n {
		if ok {
			n[i], rest, ok = cut(rest)
		}
	}
	if !ok {
		return nil, nil, false
	}
	theirs := uint32(n[0])
	free := slices.Index(m.lines[:], nil)
	switch {
	case kind != "session":
		return list(refuses(theirs, 3)), nil, true
	case free < 0 || n[2] == 0:
		return list(refuses(theirs, 4)), nil, true
	}
	m.lines[free] = &line{theirs: n[0], window: n[1], most: min(n[2], 32768), ours: 65536}
	return list(opens(theirs, uint32(free))), nil, true
}

func (x *line) data(ch int, rest string) ([]string, []chans.Event, bool) {
	s, rest, ok := cutText(rest, 32768)
	if !ok || rest != "" || x.ended || x.ours < len(s) {
		return nil, nil, false
	}
	var answers []string
	var events []chans.Event
	if x.opened && s != "" {
		events = append(events, came(ch, s))
	}
	if x.ours -= len(s); x.ours < 32768 {
		answers = list(more(uint32(x.theirs), uint32(65536-x.ours)))
		x.ours = 65536
	}
	return answers, events, true
}

func (x *line) request(ch int, rest string) ([]string, []chans.Event, bool) {
	kind, rest, ok := cutText(rest, 64)
	if !ok || rest == "" {
		return nil, nil, false
	}
	want, right := rest[0] != 0, kind == "subsystem" && rest[1:] == "\x00\x00\x00\x04sftp" && !x.opened
	var answers []string
	var events []chans.Event
	if right {
		x.opened = true
		events = append(events, event(chans.Opened, ch))
	}
	if want && right {
		answers = list(success(uint32(x.theirs)))
	} else if want {
		answers = list(failure(uint32(x.theirs)))
	}
	return answers, events, true
}

func (m *model) send(ch int, s string) ([]string, api.Errno) {
	x := m.line(ch)
	if m.dead {
		return nil, api.ErrDead
	}
	if x == nil || x.shut {
		return nil, api.ErrNone
	}
	x.waits += s
	return x.goes(), api.OK
}

func (m *model) close(ch int) ([]string, api.Errno) {
	x := m.line(ch)
	if m.dead {
		return nil, api.ErrDead
	}
	if x == nil || x.shut {
		return nil, api.ErrNone
	}
	x.shut, x.waits = true, ""
	return list(closing(uint32(x.theirs))), api.OK
}

func oneOf[T any](r *rand.Rand, l ...T) T { return l[r.Intn(len(l))] }

// someChannel is one that is open mostly, or the talks would seldom go far.
func (m *model) someChannel(r *rand.Rand) int {
	for range 60 {
		if ch := r.Intn(4); m.lines[ch] != nil {
			return ch
		}
	}
	return r.Intn(5)
}

// someSize is small where packets are, so that there are not too many of them.
func (m *model) someSize(r *rand.Rand, ch int) int {
	if x := m.line(ch); x != nil && x.most < 1000 {
		return oneOf(r, 0, 1, 2, 3, 4, 5, 9, 30, 100)
	}
	return oneOf(r, 0, 1, 2, 30, 100, 5000, 16384, 32767, 32768, 32768, 40000, 70000)
}

// someBytes are others each time, so that none may be taken for others.
func someBytes(r *rand.Rand, n int) string {
	b := make([]byte, n)
	at := r.Intn(256)
	for i := range b {
		b[i] = byte(at + i*7)
	}
	return string(b)
}

func someOpening(r *rand.Rand) string {
	number := func() uint32 { return oneOf[uint32](r, 0, 1, 2, 3, 4, 7, 50, 3000, 40000, 1<<31, 1<<32-1) }
	kind := "session"
	if r.Intn(8) == 0 {
		kind = oneOf(r, "x11", "", "sessions", at64, at64, at64, at65)
	}
	return opening(kind, number(), number(), number()) + oneOf(r, "", "", "", "rest")
}

func someRequest(r *rand.Rand, ch uint32) string {
	kind := oneOf(r, "subsystem", "subsystem", "subsystem", "shell", at64)
	rest := oneOf(r, text("sftp"), text("sftp"), text("sftp"), text("sftp")+"x", text("ftp"), "")
	return request(ch, kind, oneOf(r, "\x00", "\x01", "\x05"), rest)
}

func (m *model) someData(r *rand.Rand, ch int) string {
	if x := m.line(ch); x != nil && x.ended && r.Intn(20) > 0 {
		return more(uint32(ch), uint32(r.Intn(40)))
	}
	size := oneOf(r, 0, 1, 2, 3, 30, 5000, 16384, 32767, 32768, 32768)
	if r.Intn(100) == 0 {
		size = 32769
	}
	return data(uint32(ch), someBytes(r, size))
}

// somePayload is a right one mostly, now and then with a byte changed, cut off, or with bytes behind it.
func (m *model) somePayload(r *rand.Rand) string {
	ch := m.someChannel(r)
	none := m.line(ch) == nil && r.Intn(10) > 0
	payload := ""
	switch n := r.Intn(400); {
	case n < 2:
		payload = string([]byte{byte(r.Intn(256))}) + someBytes(r, r.Intn(9))
	case n < 20:
		payload = oneOf(r, "", "\x02", "\x03x", "\x04", "\x02"+closing(0))
	case n < 80 || none:
		payload = someOpening(r)
	case n < 140:
		payload = someRequest(r, uint32(ch))
	case n < 260:
		payload = m.someData(r, ch)
	case n < 360:
		payload = more(uint32(ch), oneOf(r, 0, 1, 2, 3, 4, 5, 7, 9, 100, 4000, 40000, uint32(r.Intn(70000))))
	case n < 362:
		payload = more(uint32(ch), oneOf[uint32](r, 1<<31, 1<<32-1))
	case n < 375:
		payload = ending(uint32(ch))
	default:
		payload = closing(uint32(ch))
	}
	return spoilt(r, payload)
}

func spoilt(r *rand.Rand, payload string) string {
	b := []byte(payload)
	switch r.Intn(400) {
	case 0:
		if len(b) > 0 {
			b[r.Intn(len(b))] ^= byte(1 << r.Intn(8))
		}
	case 1:
		b = b[:r.Intn(len(b)+1)]
	case 2:
		b = append(b, byte(r.Intn(3)))
	}
	return string(b)
}

// step makes one call of both, and holds them against each other.
func step(t *testing.T, r *rand.Rand, mux *chans.Mux, m *model, seen map[int]int) {
	t.Helper()
	var want []string
	var events []chans.Event
	var no api.Errno
	call := move{call: "Do"}
	switch n := r.Intn(20); {
	case n < 14:
		call.bytes = m.somePayload(r)
		want, events = m.do(call.bytes)
	case n < 19:
		ch := m.someChannel(r)
		call = send(ch, someBytes(r, m.someSize(r, ch)))
		want, no = m.send(call.ch, call.bytes)
	default:
		call = shut(oneOf(r, m.someChannel(r), r.Intn(7)-1))
		want, no = m.close(call.ch)
	}
	answers, happened, why := call.make(mux, []byte(call.bytes))
	got := asTexts(answers)
	if !slices.Equal(got, want) || !sameEvents(happened, events) || why != no || mux.Dead() != m.dead {
		t.Fatalf("P12.1, P12.2: %s %d %s: %s, %s, %d, %v; want %s, %s, %d, %v", call.call, call.ch, inWords(list(call.bytes)), inWords(got), eventsInWords(happened), why, mux.Dead(), inWords(want), eventsInWords(events), no, m.dead)
	}
	for ch := -1; ch <= 4; ch++ {
		waits := 0
		if x := m.line(ch); x != nil {
			waits = len(x.waits)
		}
		mustWait(t, call.call, mux, ch, waits)
	}
	for _, answer := range want {
		seen[int(answer[0])]++
	}
	for _, e := range events {
		seen[-e.Kind]++
	}
	if no != api.OK {
		seen[1000+int(no)]++
	}
}

// TestModel: many talks; they begin with a channel, or they would seldom come far.
func TestModel(t *testing.T) {
	seen := map[int]int{}
	for round := range 3000 {
		r := rand.New(rand.NewSource(int64(round)))
		mux, m := chans.New(), &model{}
		mux.Do([]byte(open7))
		m.do(open7)
		for range 60 {
			step(t, r, mux, m, seen)
		}
		if t.Failed() {
			t.Fatalf("round %d", round)
		}
	}
	for _, what := range []int{1, 91, 92, 93, 94, 97, 99, 100, -chans.Opened, -chans.Came, -chans.Ended, -chans.Gone, 1000 + int(api.ErrDead), 1000 + int(api.ErrNone)} {
		if seen[what] < 500 {
			t.Errorf("the talks lead to %d only %d times: too seldom", what, seen[what])
		}
	}
}
