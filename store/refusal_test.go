package store

import (
	"errors"
	"strings"
	"testing"

	"undercroft/api"
)

// another is an error that a refusal is found in.
type another struct {
	cause error
}

func (a another) Error() string {
	return "another"
}

func (a another) Unwrap() error {
	return a.cause
}

// A refusal's number is found in it, and in what wraps it; no refusal is OK.
func TestRefusal(t *testing.T) {
	err := error(refusal{api.ErrFull})
	if numberOf(err) != api.ErrFull || numberOf(another{err}) != api.ErrFull {
		t.Errorf("numbers %d, %d", numberOf(err), numberOf(another{err}))
	}
	if numberOf(nil) != api.OK || numberOf(errors.New("none")) != api.OK {
		t.Error("OK is refused")
	}
	if text := err.Error(); !strings.Contains(text, "51") {
		t.Errorf("it says %q", text)
	}
}
