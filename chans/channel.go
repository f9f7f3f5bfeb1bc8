package chans

import (
	"strongroom/api"
	"strongroom/window"
	"strongroom/wire"
)

// channel is one of a Mux; its zero value is one that is free. Both windows are numbers of package window.
type channel struct {
	open     bool
	opened   bool // Opened was told
	ended    bool // Ended was told
	closed   bool // our 97 is sent: the channel stays open until theirs comes
	ours     int
	theirs   uint32
	toThem   complex128
	fromThem complex128
	waits    []byte
}

// fullWindow is how much may come to a channel that has just been opened.
func fullWindow() complex128 { return window.Of(api.Window, api.MaxData) }

// take does a payload of that kind; r stands behind the channel's number.
func (c *channel) take(kind int, r *wire.Reader) outcome {
	switch kind {
	case kindOfMore:
		return c.more(r)
	case kindOfData:
		return c.data(r)
	case kindOfEnd:
		return c.end(r)
	case kindOfClose:
		return c.close(r)
	case kindOfRequest:
		return c.request(r)
	}
	return outcome{wrong: true}
}

// more widens their window, and sends on what waited for that.
func (c *channel) more(r *wire.Reader) outcome {
	n := r.U32()
	wider, ok := window.Add(c.toThem, int64(n))
	if !isWhole(r) || !ok {
		return outcome{wrong: true}
	}
	c.toThem = wider
	return outcome{answers: c.flush()}
}

// data takes bytes; those ahead of Opened are for nobody, but they too were let by our window.
func (c *channel) data(r *wire.Reader) outcome {
	text := r.Text(api.MaxData)
	narrower, ok := window.Take(c.fromThem, int64(len(text)))
	if !isWhole(r) || !ok || c.ended {
		return outcome{wrong: true}
	}
	c.fromThem = narrower
	out := outcome{answers: c.refill()}
	if c.opened && text != "" {
		out.events = c.tell(Came)
		out.events[0].Bytes = []byte(text)
	}
	return out
}

// refill makes our window full again as soon as more than half of it is used up.
func (c *channel) refill() [][]byte {
	left := window.Left(c.fromThem)
	if left >= api.Window/2 {
		return nil
	}
	c.fromThem = fullWindow()
	return [][]byte{numbers(kindOfMore, c.theirs, uint32(api.Window-left))}
}

// end is told once: nothing more comes from them.
func (c *channel) end(r *wire.Reader) outcome {
	if !isWhole(r) || c.ended {
		return outcome{wrong: true}
	}
	c.ended = true
	return outcome{events: c.tell(Ended)}
}

// close makes the channel free, with an answer to a 97 that isn't one itself.
func (c *channel) close(r *wire.Reader) outcome {
	if !isWhole(r) {
		return outcome{wrong: true}
	}
	out := outcome{events: c.tell(Gone)}
	if !c.closed {
		out.answers = [][]byte{numbers(kindOfClose, c.theirs)}
	}
	*c = channel{}
	return out
}

// request starts the one subsystem, once; whatever else is asked for is refused, but ends nothing.
func (c *channel) request(r *wire.Reader) outcome {
	q, ok := readRequest(r)
	if !ok {
		return outcome{wrong: true}
	}
	starts := !c.opened && q.kind == kindOfSubsystem && isFiles(q.rest)
	var out outcome
	if starts {
		c.opened = true
		out.events = c.tell(Opened)
	}
	switch {
	case q.wants && starts:
		out.answers = [][]byte{numbers(kindOfSuccess, c.theirs)}
	case q.wants:
		out.answers = [][]byte{numbers(kindOfFailure, c.theirs)}
	}
	return out
}

func (c *channel) tell(kind int) []Event { return []Event{{Kind: kind, Chan: c.ours}} }

// flush answers the payloads by which goes what waits, or as much of it as their window lets by.
func (c *channel) flush() [][]byte {
	sizes, behind := window.Split(c.toThem, int64(len(c.waits)))
	payloads := make([][]byte, 0, len(sizes))
	for _, size := range sizes {
		payloads = append(payloads, dataOf(c.theirs, c.waits[:size]))
		// What is sent is cut off, not moved away: small windows would move what waits again and again.
		c.waits = c.waits[size:]
	}
	if len(c.waits) == 0 {
		c.waits = nil
	}
	c.toThem = behind
	return payloads
}
