package vr

import (
	"testing"

	"undercroft/api"
)

// P1: no panic gets out, and what failed without a refusal does not look as if it were done.
func TestAttempt(t *testing.T) {
	var none []int
	for name, c := range map[string]struct {
		do   func()
		want api.Errno
	}{
		"done":              {func() {}, api.OK},
		"no cause":          {func() { refuse(api.ErrFull) }, api.OK},
		"causes not given":  {func() { refuse(api.ErrFull, false, false) }, api.OK},
		"the last cause":    {func() { refuse(api.ErrFull, false, true) }, api.ErrFull},
		"the first refusal": {func() { refuse(api.ErrLong, true); refuse(api.ErrFull, true) }, api.ErrLong},
		"a fault":           {func() { none[0]++ }, api.ErrState},
		"another panic":     {func() { panic("another") }, api.ErrState},
	} {
		if err := attempt(c.do); err != c.want {
			t.Errorf("%s: %d, want %d", name, err, c.want)
		}
	}
}

func TestWithin(t *testing.T) {
	if !within(1, 0) || !within(-1, 1, -1, 0, 1) || within(0, 1, 0, 2) || within(0, 1, -1, 1) {
		t.Error("within is wrong")
	}
}
