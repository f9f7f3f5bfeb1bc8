package auth

import (
	"strongroom/api"
	"strongroom/wire"
)

// The bytes that payloads begin with.
const (
	kindOfBye      = 1
	kindOfIgnore   = 2
	kindOfUnknown  = 3
	kindOfDebug    = 4
	kindOfService  = 5
	kindOfAccepted = 6
	kindOfLogin    = 50
	kindOfFailure  = 51
	kindOfSuccess  = 52
)

// RFC 4253's numbers of why a connection ends.
const (
	reasonProtocol = 2
	reasonService  = 7
	reasonTries    = 14
)

const (
	serviceOfLogins = "ssh-userauth"
	serviceOfUsers  = "ssh-connection"
	methodOfPass    = "password"
)

// maxText is the most bytes that a Text has that comes in.
const maxText = 64

// login is who wants to come in, to what, and how; what the rest means, the method says.
type login struct {
	name, service, method string
	rest                  []byte
}

// Bye answers the payload that ends a connection.
func Bye(reason uint32) []byte {
	w := wire.NewWriter()
	w.Byte(kindOfBye)
	w.U32(reason)
	w.Text("")
	w.Text("")
	return w.Done()
}

func accepted(service string) []byte {
	w := wire.NewWriter()
	w.Byte(kindOfAccepted)
	w.Text(service)
	return w.Done()
}

// failure tells by which method one may try again, and that nothing is reached by halves.
func failure() []byte {
	w := wire.NewWriter()
	w.Byte(kindOfFailure)
	w.Names([]string{methodOfPass})
	w.Bool(false)
	return w.Done()
}

func success() []byte {
	w := wire.NewWriter()
	w.Byte(kindOfSuccess)
	return w.Done()
}

func readService(r *wire.Reader) (string, bool) {
	name := r.Text(maxText)
	return name, isWhole(r)
}

func readLogin(r *wire.Reader) (login, bool) {
	var l login
	l.name = r.Text(maxText)
	l.service = r.Text(maxText)
	l.method = r.Text(maxText)
	l.rest = r.Rest()
	return l, isWhole(r)
}

// readPass reads what stands behind the method password. A true there asks for another password, which nobody gets.
func readPass(rest []byte) (string, bool) {
	r := wire.NewReader(rest)
	changes := r.Bool()
	pass := r.Text(maxText)
	return pass, isWhole(r) && !changes
}

// isWhole tells whether all was read, and nothing refused.
func isWhole(r *wire.Reader) bool {
	why, _ := r.End()
	return why == api.OK
}
