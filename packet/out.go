package packet

import (
	"slices"

	"strongroom/api"
)

// Out makes packets, which the other end's In reads in this order.
type Out struct {
	line line
}

// NewOut makes an Out whose packets are plain until it has a key.
func NewOut() *Out { return &Out{} }

// Keys seals all packets from the next one on.
func (o *Out) Keys(key []byte) api.Errno {
	if !rightKey(key) {
		return api.ErrArg
	}
	o.line.setKey(key)
	return api.OK
}

// Packet answers the payload's packet.
func (o *Out) Packet(payload []byte) ([]byte, api.Errno) {
	if len(payload) == 0 {
		return nil, api.ErrArg
	}
	if len(payload) > api.MaxPayload {
		return nil, api.ErrLong
	}
	body := o.filled(payload)
	head := appendNumber(nil, uint64(len(body)), headSize)
	rest, why := o.line.seal(head, body)
	if why != api.OK {
		return nil, why
	}
	o.line.count++
	return slices.Concat(head, rest), api.OK
}

// filled is the payload between the number of its noughts and these.
func (o *Out) filled(payload []byte) []byte {
	noughts := leastNought
	for !o.line.fillsUnits(1 + len(payload) + noughts) {
		noughts++
	}
	return slices.Concat([]byte{byte(noughts)}, payload, make([]byte, noughts))
}
