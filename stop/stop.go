// Package stop ends a computation at its first error, however deep in it that is.
package stop

import "truss/api"

// A failure is what a computation that has an error panics with.
type failure struct {
	err api.Errno
}

// At ends the computation, if err is an error.
func At(err api.Errno) {
	if err != api.OK {
		panic(failure{err})
	}
}

// Value returns a value, if there is no error together with it; otherwise it ends the computation.
func Value[T any](value T, err api.Errno) T {
	At(err)
	return value
}

// Result returns what a computation comes to, or the error at which it ends.
func Result[T any](compute func() T) (result T, err api.Errno) {
	defer func() {
		if f, ok := recover().(failure); ok {
			err = f.err
		}
	}()
	return compute(), api.OK
}
