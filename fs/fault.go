package fs

import (
	"errors"
	"strconv"
	"strings"

	"undercroft/api"
)

// fault is a cause by its number, and the name that led no further, if one did.
type fault struct {
	number api.Errno
	name   string
}

func (f fault) Error() string {
	return f.name + ": error " + strconv.Itoa(int(f.number))
}

// Is takes faults of one number for one, whatever names they tell of.
func (f fault) Is(other error) bool {
	like, ok := other.(fault)
	return ok && like.number == f.number
}

// refusal is why an op is refused: a cause, and the names of the path for which it holds.
type refusal struct {
	names []string
	cause error
}

func (r refusal) Error() string {
	return strings.Join(r.names, "/") + ": " + r.cause.Error()
}

func (r refusal) Unwrap() error {
	return r.cause
}

// refuse makes a refusal of a number, and none of OK.
func refuse(number api.Errno, names []string) error {
	if number == api.OK {
		return nil
	}
	return refusal{names, fault{number: number}}
}

// numberOf finds the number of why an op is refused; of no error it is OK.
func numberOf(err error) api.Errno {
	var cause fault
	errors.As(err, &cause)
	return cause.number
}

// isMissing tells whether an op is refused since a name is not there.
func isMissing(err error) bool {
	return errors.Is(err, fault{number: api.ErrNoEnt})
}
