package vr

import "undercroft/api"

// refuse ends a step with an error, if one of its causes is given.
func refuse(err api.Errno, causes ...bool) {
	for _, cause := range causes {
		if cause {
			panic(err)
		}
	}
}

// attempt does what may be refused, and tells with which error it was.
func attempt(do func()) (err api.Errno) {
	// What fails without a refusal must not look as if it were done.
	err = api.ErrState
	defer func() {
		if refused, ok := recover().(api.Errno); ok {
			err = refused
		}
	}()
	do()
	return api.OK
}

// within tells whether all numbers are from low to high.
func within(low, high int, numbers ...int) bool {
	return count(numbers, func(n int) bool { return n < low || n > high }) == 0
}

// count tells how many of a list are such.
func count[T any](list []T, such func(T) bool) int {
	n := 0
	for _, item := range list {
		if such(item) {
			n++
		}
	}
	return n
}
