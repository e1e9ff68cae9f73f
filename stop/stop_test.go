package stop_test

import (
	"testing"

	"truss/api"
	"truss/stop"
)

// Errors of layers 9 and 10 leave by a panic that ends at Result.

func TestResult(t *testing.T) {
	got, err := stop.Result(func() int { return stop.Value(7, api.OK) })
	if got != 7 || err != api.OK {
		t.Errorf("Result = %d, %d", got, err)
	}
	done := false
	got, err = stop.Result(func() int {
		stop.At(api.OK)
		n := stop.Value(7, api.ErrShape)
		done = true
		return n
	})
	if got != 0 || err != api.ErrShape || done {
		t.Errorf("Result = %d, %d", got, err)
	}
	// One within another one has its own error.
	got, err = stop.Result(func() int {
		_, inner := stop.Result(func() int {
			stop.At(api.ErrClash)
			return 1
		})
		return int(inner)
	})
	if got != int(api.ErrClash) || err != api.OK {
		t.Errorf("Result = %d, %d", got, err)
	}
}
