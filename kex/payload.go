package kex

import (
	"strongroom/api"
	"strongroom/wire"
)

// The bytes that payloads begin with.
const (
	kindOfInit  = 30
	kindOfReply = 31
)

// textSize is that of every Text of a payload: points, prints and proofs have so many bytes.
const textSize = 32

// payload is a byte that says its kind, and the Texts.
func payload(kind int, texts ...[]byte) []byte {
	w := wire.NewWriter()
	w.Byte(kind)
	for _, text := range texts {
		w.Text(string(text))
	}
	return w.Done()
}

// textsOf is the Texts of a payload that is of that kind and has so many of them, and nothing more.
func textsOf(kind, count int, b []byte) ([][]byte, api.Errno) {
	r := wire.NewReader(b)
	if r.Byte() != kind {
		r.Fail(api.ErrForm)
	}
	texts := make([][]byte, count)
	for i := range texts {
		texts[i] = []byte(r.Text(textSize))
		if len(texts[i]) != textSize {
			r.Fail(api.ErrForm)
		}
	}
	// Why wire can't read it does not matter here.
	if why, _ := r.End(); why != api.OK {
		return nil, api.ErrForm
	}
	return texts, api.OK
}
