package nego

import "strongroom/api"

// Choose answers the first of the client's names that the server has too.
func Choose(client, server []string) (string, api.Errno) {
	for _, name := range client {
		for _, other := range server {
			if name == other {
				return name, api.OK
			}
		}
	}
	return "", api.ErrNone
}

// Agree answers what both speak, of each of the first eight lists one name; the last two, of languages, need nothing in common.
func Agree(client, server Lists) ([8]string, api.Errno) {
	var chosen [8]string
	for i := range chosen {
		name, why := Choose(client.Names[i], server.Names[i])
		if why != api.OK {
			return [8]string{}, why
		}
		chosen[i] = name
	}
	return chosen, api.OK
}
