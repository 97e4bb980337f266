package fs

import (
	"errors"
	"strings"
	"testing"

	"undercroft/api"
)

// A refusal wraps its cause: the number is found in it, and faults of one number are one.
func TestRefusal(t *testing.T) {
	err := error(refusal{[]string{"a", "b"}, fault{api.ErrNoEnt, "b"}})
	if numberOf(err) != api.ErrNoEnt || numberOf(refuse(api.ErrLong, nil)) != api.ErrLong {
		t.Errorf("numbers %d, %d", numberOf(err), numberOf(refuse(api.ErrLong, nil)))
	}
	if !isMissing(err) || isMissing(refuse(api.ErrNotDir, nil)) || isMissing(nil) {
		t.Error("what is missing is not told")
	}
	if errors.Is(err, fault{number: api.ErrNotDir}) || errors.Is(err, errors.New("another")) {
		t.Error("another error is taken for it")
	}
	if refuse(api.OK, []string{"a"}) != nil || numberOf(nil) != api.OK {
		t.Error("OK is refused")
	}
	if text := err.Error(); !strings.Contains(text, "a/b") || !strings.Contains(text, "101") {
		t.Errorf("it says %q", text)
	}
}
