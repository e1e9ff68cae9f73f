package mode_test

import (
	"slices"
	"testing"

	"truss/api"
	"truss/build"
	"truss/mode"
)

// expectStrict checks which variables are strict in a term.
func expectStrict(t *testing.T, x api.Term, fixed int, want ...int) {
	t.Helper()
	if got, err := mode.Strict(x, fixed); err != api.OK || !slices.Equal(got, want) {
		t.Errorf("Strict of %v with %d fixed variables = %v, %d; want %v", x, fixed, got, err, want)
	}
}

// P14.3: Strict

func TestStrict(t *testing.T) {
	expectStrict(t, v(0), 0, 0)
	expectStrict(t, v(0), 1)
	expectStrict(t, c(s, v(3)), 3, 3)
	expectStrict(t, c(plus, v(7), v(2), v(7)), 0, 2, 7)
	expectStrict(t, c(plus, v(api.MaxN), lam(v(api.MaxN)), v(0)), 1, api.MaxN-1, api.MaxN)
	expectStrict(t, c(z), 0)
	// Fixed variables as arguments: different ones, and no open ones.
	expectStrict(t, v(5, v(0), v(1)), 2, 5)
	expectStrict(t, v(5, v(1), v(0)), 2, 5)
	expectStrict(t, v(5, v(0), v(0)), 2)
	expectStrict(t, v(5, v(0), v(1)), 1)
	expectStrict(t, v(5, v(0), c(z)), 2)
	expectStrict(t, v(5, v(5)), 2)
	expectStrict(t, v(5, m(0)), 2)
	// Bound ones, of TLams and TPis; and both.
	expectStrict(t, lam(v(5, v(0))), 0, 4)
	expectStrict(t, lam(v(5, v(0), v(1))), 1, 4)
	expectStrict(t, lam(v(5, v(0), v(1))), 0)
	expectStrict(t, lams(3, v(5, v(1), v(2), v(0))), 0, 2)
	expectStrict(t, lams(3, v(5, v(1), v(2), v(1))), 0)
	expectStrict(t, pi(v(1), v(3, v(0))), 0, 1, 2)
	expectStrict(t, pi(v(1, v(0)), v(3, v(0))), 1, 1, 2)
	// Long forms of higher ones.
	expectStrict(t, lam(v(5, lam(v(1, v(0))))), 0, 4)
	expectStrict(t, lam(v(5, lam(v(1, lam(v(1, v(0))))))), 0, 4)
	expectStrict(t, v(5, lam(v(1, v(0)))), 1, 5)
	expectStrict(t, v(5, lam(v(1, v(0)))), 0)
	expectStrict(t, lam(v(5, lam(v(1, v(1))))), 0)
	expectStrict(t, lam(v(5, lam(v(0)))), 0)
	expectStrict(t, lam(v(5, lam(c(s, v(0))))), 0)
	expectStrict(t, lam(v(5, v(0), lam(v(1, v(0))))), 0)
	// What stands within the Args of an open variable is not strict; of a fixed or bound one, a constant or a metavariable it is.
	expectStrict(t, v(5, v(6)), 0)
	expectStrict(t, v(5, c(s, v(6))), 0)
	expectStrict(t, v(5, lam(v(7, v(0)))), 0)
	expectStrict(t, v(0, v(6)), 1, 6)
	expectStrict(t, lam(v(0, v(6))), 0, 5)
	expectStrict(t, m(0, v(6)), 0, 6)
	expectStrict(t, c(plus, v(5, v(6)), v(6), c(z)), 0, 6)
	expectStrict(t, c(plus, v(5, c(z)), c(s, v(6)), lam(v(6, v(0)))), 0, 5, 6)
	expectStrict(t, lam(v(0, lam(v(8, v(1), v(0))), v(0))), 0, 6)
	// The example of the tests.
	expectStrict(t, lam(v(0, v(2, v(0)), v(3, v(4)))), 0, 1)
	expectStrict(t, lam(v(0, v(2, v(0)), v(3, v(4)))), 4)
	expectStrict(t, lam(v(0, v(2, v(0)), v(6, v(4)))), 4, 5)
	// Types and kinds are terms.
	expectStrict(t, typ(), 0)
	expectStrict(t, to(c(nat), c(plus, v(3), v(2), v(1)), typ()), 0, 0, 1, 2)
	expectStrict(t, v(api.MaxCtx), api.MaxCtx, api.MaxCtx)
	expectStrict(t, v(api.MaxCtx-1), api.MaxCtx)
}

func TestStrictErrors(t *testing.T) {
	for _, fixed := range []int{-1, api.MaxCtx + 1, 1 << 62, -1 << 62} {
		if got, err := mode.Strict(v(0), fixed); err != api.ErrArg || len(got) > 0 {
			t.Errorf("Strict with %d fixed variables = %v, %d", fixed, got, err)
		}
	}
	for _, x := range build.Improper() {
		if got, err := mode.Strict(x, 0); err != api.ErrArg || len(got) > 0 {
			t.Errorf("Strict = %v, %d", got, err)
		}
	}
}
