package dec

import (
	"strconv"

	"signetry/api"
)

// refusal is the error that is thrown where bytes are wrong, up to Decode.
type refusal struct{ number api.Errno }

func (r refusal) Error() string {
	return "dec: error " + strconv.Itoa(int(r.number))
}

// need throws an error, if it is one.
func need(e api.Errno) {
	if e != api.OK {
		panic(refusal{e})
	}
}
