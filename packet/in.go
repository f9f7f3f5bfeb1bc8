package packet

import (
	"bytes"

	"strongroom/api"
)

// In reads packets, each behind the one ahead of it, from bytes that come in whatever pieces.
type In struct {
	line line
	held []byte
	// passed is how many bytes were read since held was copied last.
	passed int
	why    api.Errno
}

// NewIn makes an In whose packets are plain until it has a key.
func NewIn() *In { return &In{} }

// Keys opens all packets from the next one on, of which bytes may be held already.
func (n *In) Keys(key []byte) api.Errno {
	if !rightKey(key) {
		return api.ErrArg
	}
	if n.why == api.OK {
		n.line.setKey(key)
	}
	return api.OK
}

// Feed puts b behind what is held.
func (n *In) Feed(b []byte) {
	if n.why == api.OK {
		n.held = append(n.held, b...)
	}
}

// Held is how many bytes were fed and not read yet.
func (n *In) Held() int { return len(n.held) }

// Next answers the next payload, if its packet is there as a whole; else what is refused, if anything is.
func (n *In) Next() ([]byte, bool, api.Errno) {
	var head, body, payload []byte
	var length, size int
	why := n.why
	if why != api.OK {
		goto refused
	}
	if len(n.held) < headSize {
		goto short
	}
	head = n.held[:headSize]
	length, why = n.line.lengthOf(head)
	if why != api.OK {
		goto refused
	}
	size = headSize + length + n.line.behind()
	if len(n.held) < size {
		goto short
	}
	body, why = n.line.open(head, n.held[headSize:size])
	if why != api.OK {
		goto refused
	}
	payload, why = payloadOf(body)
	if why != api.OK {
		goto refused
	}
	n.line.count++
	n.pass(size)
	return payload, true, api.OK
refused:
	// Nothing is read behind a refusal, so that it alone is kept.
	*n = In{why: why}
short:
	return nil, false, why
}

// pass leaves the first bytes of those that are held behind.
func (n *In) pass(size int) {
	n.held = n.held[size:]
	n.passed += size
	// A copy of the rest lets the memory of what was read go; made once that is as much as the rest, it costs each byte little.
	if n.passed >= len(n.held) {
		n.held, n.passed = bytes.Clone(n.held), 0
	}
}

// lengthOf is how many bytes the head tells of.
func (l *line) lengthOf(head []byte) (int, api.Errno) {
	told := numberOf(head)
	// Asked first, while nothing is added: a sum could wrap round.
	if told > api.MaxPacket {
		return 0, api.ErrLong
	}
	length := int(told)
	if length < leastLength || !l.fillsUnits(length) {
		return 0, api.ErrForm
	}
	return length, api.OK
}

// numberOf is the number whose bytes, the highest first, are b.
func numberOf(b []byte) uint32 {
	var n uint32
next:
	if len(b) == 0 {
		return n
	}
	n = n<<8 | uint32(b[0])
	b = b[1:]
	goto next
}

// payloadOf is what stands between the number of noughts and these, which may be any bytes.
func payloadOf(body []byte) ([]byte, api.Errno) {
	noughts := int(body[0])
	end := len(body) - noughts
	if noughts < leastNought || end <= 1 {
		return nil, api.ErrForm
	}
	return bytes.Clone(body[1:end]), api.OK
}
