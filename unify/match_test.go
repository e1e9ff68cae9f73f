package unify_test

import (
	"testing"

	"truss/api"
	"truss/build"
	"truss/unify"
)

func expectMatch(t *testing.T, metas []api.Meta, n int, l []api.Equation, want []api.Meta, left ...api.Equation) {
	t.Helper()
	p, err := unify.Match(whole(), metas, n, l)
	expectProblem(t, "Match", p, err, api.Problem{Metas: want, Left: left})
}

// expectMatchLeft checks that an equation is left, on whichever sides the terms are.
func expectMatchLeft(t *testing.T, metas []api.Meta, n int, a, b api.Term) {
	t.Helper()
	for _, q := range []api.Equation{eq(3, a, b), eq(3, b, a)} {
		expectMatch(t, metas, n, list(q), metas, q)
	}
}

// P9.3: the first metavariables count as if they were no patterns

func TestMatch(t *testing.T) {
	metas := some()
	for n := range 6 {
		for _, x := range []struct {
			at          int
			side, other api.Term
		}{{0, m(0), c(z)}, {1, m(1, v(0)), v(0)}, {2, m(2, v(0), v(1)), c(s, v(1))}, {4, m(4, lam(v(1, v(0)))), c(z)}} {
			if x.at < n {
				expectMatchLeft(t, metas, n, x.side, x.other)
				continue
			}
			p, err := unify.Match(whole(), metas, n, list(eq(3, x.side, x.other)))
			if err != api.OK || !p.Metas[x.at].Solved || len(p.Left) > 0 {
				t.Errorf("Match with %d = %v, %d", n, p, err)
			}
		}
	}
	for _, q := range []api.Equation{eq(0, c(s, m(0)), c(s, c(s, c(z)))), eq(2, m(1, v(1)), c(s, v(0))), eq(0, m(0), c(s, m(0)))} {
		p, err := unify.Unify(whole(), metas, list(q))
		again, againErr := unify.Match(whole(), metas, 0, list(q))
		if err != againErr || !build.SameMetas(p.Metas, again.Metas) {
			t.Errorf("Match with 0 = %v, %d; Unify = %v, %d", again, againErr, p, err)
		}
	}
	// Nothing of them is left open, nor a clash found.
	expectMatchLeft(t, metas, 1, m(0), c(s, m(0)))
	expectMatchLeft(t, metas, 2, m(1, v(0)), c(s, v(1)))
	expectMatchLeft(t, metas, 3, m(2, v(0), v(1)), m(2, v(1), v(0)))
	expectMatchLeft(t, metas, 3, m(2, v(0), v(1)), m(1, v(0)))
	p, err := unify.Match(whole(), metas, 5, list(eq(0, m(0), c(z)), eq(0, c(z), c(s, m(0)))))
	expectNothing(t, "Match", p, err, api.ErrClash)
}

// P9.3: in what the other ones are bound to

func TestMatchOthers(t *testing.T) {
	metas := some()
	// The other one gets the value, whichever number is greater.
	expectMatch(t, metas, 2, list(eq(3, m(1, v(0)), m(2, v(0), v(1)))), with(metas, 2, lams(2, m(1, v(1)))))
	expectMatch(t, metas, 2, list(eq(3, m(2, v(0), v(1)), m(1, v(0)))), with(metas, 2, lams(2, m(1, v(1)))))
	// They are not cut: in their spines a variable may vanish.
	expectMatchLeft(t, metas, 3, m(3, v(0), v(1), v(1)), c(s, m(2, v(0), v(2))))
	expectMatchLeft(t, metas, 3, m(3, v(0), v(1), v(1)), m(2, v(0), v(2)))
	expectMatchLeft(t, metas, 3, m(3, v(0), v(1), v(2)), c(s, m(2, m(3, v(0), v(1), v(2)), v(0))))
	metas = append(metas, hole(arrows(1)))
	expectMatchLeft(t, metas, 3, m(5, v(0)), c(s, m(2, v(0), v(2))))
	p, err := unify.Match(whole(), metas, 2, list(eq(3, m(5, v(0)), c(s, m(2, v(0), v(2))))))
	want := append(with(with(metas, 2, cutAt(2, 6, 1)), 5, lam(c(s, m(6, v(0))))), hole(arrows(1)))
	expectProblem(t, "Match", p, err, api.Problem{Metas: want})
	// What is left is decided once the other ones are known.
	l := list(eq(1, m(5, c(z)), m(1, c(z))), eq(1, m(5, v(0)), m(1, v(0))))
	expectMatch(t, metas, 2, l, with(metas, 5, lam(m(1, v(0)))))
	// Those that are solved already are resolved.
	metas = with(metas, 0, c(s, c(z)))
	expectMatch(t, metas, 6, list(eq(0, m(0), c(s, c(z)))), metas)
	p, err = unify.Match(whole(), metas, 6, list(eq(0, m(0), c(z))))
	expectNothing(t, "Match", p, err, api.ErrClash)
	// New ones are others, too.
	cut := list(eq(3, m(5, v(0)), c(s, m(3, v(0), v(1), v(2)))), eq(1, m(5, v(0)), c(s, v(0))))
	want = append(with(with(metas, 3, lams(3, v(2))), 5, lam(c(s, v(0)))), solved(arrows(1), lam(v(0))))
	expectMatch(t, metas, 3, cut, want)
}
