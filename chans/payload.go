package chans

import (
	"strongroom/api"
	"strongroom/wire"
)

// The bytes that payloads begin with.
const (
	kindOfBye     = 1
	kindOfIgnore  = 2
	kindOfUnknown = 3
	kindOfDebug   = 4
	kindOfOpen    = 90
	kindOfOpened  = 91
	kindOfRefused = 92
	kindOfMore    = 93
	kindOfData    = 94
	kindOfEnd     = 96
	kindOfClose   = 97
	kindOfRequest = 98
	kindOfSuccess = 99
	kindOfFailure = 100
)

// reasonProtocol is RFC 4253's number of why a connection ends that breaks the rules.
const reasonProtocol = 2

// RFC 4254's numbers of why a channel is not opened.
const (
	reasonKind  = 3
	reasonShort = 4
)

const (
	kindOfSession   = "session"
	kindOfSubsystem = "subsystem"
	nameOfFiles     = "sftp"
)

// maxKind is the most bytes that the kind of a channel or of a request has.
const maxKind = 64

// opening is a channel that the other end wants, by its own number, and what may be sent to it.
type opening struct {
	kind                 string
	theirs, window, most uint32
}

// request is what is asked for on a channel; what the rest means, the kind says.
type request struct {
	kind  string
	wants bool
	rest  []byte
}

// numbers is a payload of U32s alone.
func numbers(kind int, l ...uint32) []byte {
	w := wire.NewWriter()
	w.Byte(kind)
	for _, n := range l {
		w.U32(n)
	}
	return w.Done()
}

func refused(theirs, reason uint32) []byte {
	w := wire.NewWriter()
	w.Byte(kindOfRefused)
	w.U32(theirs)
	w.U32(reason)
	w.Text("")
	w.Text("")
	return w.Done()
}

func dataOf(theirs uint32, b []byte) []byte {
	w := wire.NewWriter()
	w.Byte(kindOfData)
	w.U32(theirs)
	w.Text(string(b))
	return w.Done()
}

func readOpening(r *wire.Reader) (opening, bool) {
	var o opening
	o.kind = r.Text(maxKind)
	o.theirs = r.U32()
	o.window = r.U32()
	o.most = r.U32()
	r.Rest()
	return o, isWhole(r)
}

func readRequest(r *wire.Reader) (request, bool) {
	var q request
	q.kind = r.Text(maxKind)
	q.wants = r.Bool()
	q.rest = r.Rest()
	return q, isWhole(r)
}

// isFiles tells whether what stands behind the kind subsystem names the one that there is.
func isFiles(rest []byte) bool {
	r := wire.NewReader(rest)
	name := r.Text(len(nameOfFiles))
	return isWhole(r) && name == nameOfFiles
}

// isWhole tells whether all was read, and nothing refused.
func isWhole(r *wire.Reader) bool {
	why, _ := r.End()
	return why == api.OK
}
