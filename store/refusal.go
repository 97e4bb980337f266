package store

import (
	"errors"

	"undercroft/api"
	"undercroft/octets"
)

// refusal is why a step is refused, by its number.
type refusal struct {
	number api.Errno
}

func (r refusal) Error() string {
	return "store: error " + octets.Decimal(int(r.number))
}

// numberOf finds the number of a refusal; of no error it is OK.
func numberOf(err error) api.Errno {
	var r refusal
	errors.As(err, &r)
	return r.number
}
