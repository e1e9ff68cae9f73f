package unify_test

import (
	"testing"

	"truss/api"
	"truss/unify"
)

func expectSolves(t *testing.T, metas []api.Meta, want bool, wantErr api.Errno, l ...api.Equation) {
	t.Helper()
	got, err := unify.Solves(whole(), metas, l)
	if got != want || err != wantErr {
		t.Errorf("Solves(%v) = %v, %d; want %v, %d", l, got, err, want, wantErr)
	}
}

// P9.4: Solves

func TestSolves(t *testing.T) {
	metas := []api.Meta{hole(c(nat)), solved(c(nat), c(s, m(0))), solved(arrows(1), lam(c(s, c(s, v(0))))), solved(c(nat), m(2, m(1))), solved(arrows(1), c(z))}
	expectSolves(t, metas, true, api.OK)
	for _, x := range []struct {
		a, b api.Term
		want bool
	}{
		{c(z), c(z), true},
		{c(z), c(s, c(z)), false},
		{m(0), m(0), true},
		{m(0), c(z), false},
		{m(1), c(s, m(0)), true},
		{m(1), m(0), false},
		{m(3), c(s, c(s, c(s, m(0)))), true},
		{m(3), m(2, m(1)), true},
		{c(s, m(1)), m(2, m(0)), true},
		{m(2, v(0)), c(s, c(s, v(0))), true},
		{m(2, v(0)), c(s, c(s, v(1))), false},
		{lam(m(2, v(0))), lam(c(s, c(s, v(0)))), true},
		{typ(), typ(), true},
		{v(9), v(9), true},
		{c(99), c(99), true},
	} {
		expectSolves(t, metas, x.want, api.OK, eq(1, x.a, x.b))
		expectSolves(t, metas, x.want, api.OK, eq(1, x.b, x.a))
		expectSolves(t, metas, x.want, api.OK, eq(1, m(1), m(1)), eq(0, x.a, x.b), eq(0, c(z), c(z)))
		expectSolves(t, metas, false, api.OK, eq(1, x.a, x.b), eq(1, c(z), m(1)))
	}
	// Contexts and Classes are of no account.
	expectSolves(t, metas, true, api.OK, api.Equation{Ctx: []api.Term{m(4, c(z))}, A: c(z), B: c(z), Class: m(4, c(z))})
	expectSolves(t, metas, false, api.ErrShape, eq(0, m(4, c(z)), c(z)))
	expectSolves(t, metas, false, api.ErrShape, eq(0, c(z), m(4, c(z))))
	// Each side of each equation is resolved.
	expectSolves(t, metas, false, api.ErrShape, eq(0, c(z), m(1)), eq(0, c(z), m(4, c(z))))
}

// P9.4: Rename

func TestRename(t *testing.T) {
	metas := append(some(), solved(c(nat), c(s, m(0))), solved(arrows(1), lam(m(1, v(0)))), hole(c(nat)), solved(arrows(1), c(z)))
	pair := func(a, b api.Term) api.Term { return c(plus, a, b, c(z)) }
	for _, x := range []struct {
		a, b api.Term
		want bool
	}{
		{typ(), typ(), true},
		{c(z), c(z), true},
		{c(z), c(s, c(z)), false},
		{v(0), v(0), true},
		{v(0), v(1), false},
		{v(0), c(0), false},
		{m(0), m(0), true},
		{m(0), m(7), true},
		{m(0), c(0), false},
		{m(0), v(0), false},
		// Their Classes are of no account, the spines are.
		{m(0), m(1), true},
		{m(1, v(0)), m(2, v(0)), true},
		{m(1, v(0)), m(1, v(1)), false},
		{m(1, v(0)), m(1), false},
		{m(1, v(0)), m(1, v(0), v(0)), false},
		{m(1, m(0)), m(1, m(7)), true},
		{m(1, m(0)), m(0, m(1)), true},
		// One to one, in both directions.
		{pair(m(0), m(7)), pair(m(7), m(0)), true},
		{pair(m(0), m(7)), pair(m(1), m(2)), true},
		{pair(m(0), m(0)), pair(m(7), m(7)), true},
		{pair(m(0), m(0)), pair(m(0), m(7)), false},
		{pair(m(0), m(0)), pair(m(7), m(0)), false},
		{pair(m(0), m(7)), pair(m(7), m(7)), false},
		{pair(m(0), m(7)), pair(m(1), m(1)), false},
		// They are resolved first.
		{m(5), c(s, m(7)), true},
		{m(5), m(7), false},
		{m(6, m(0)), m(2, m(7)), true},
		{pair(m(5), m(0)), pair(c(s, m(7)), m(7)), true},
		{pair(m(5), m(0)), pair(c(s, m(7)), m(0)), false},
		{m(6), lam(m(0, v(0))), true},
		{lam(m(1, v(0))), pair(m(0), m(0)), false},
		{pi(c(nat), c(vec, m(0))), pi(c(nat), c(vec, m(7))), true},
		{pi(m(0), m(0)), pi(m(7), m(0)), false},
	} {
		for _, pair := range [][2]api.Term{{x.a, x.b}, {x.b, x.a}} {
			got, err := unify.Rename(metas, pair[0], pair[1])
			if got != x.want || err != api.OK {
				t.Errorf("Rename(%v, %v) = %v, %d; want %v", pair[0], pair[1], got, err, x.want)
			}
		}
	}
	full := c(s, append(copies(299, m(5)), c(z), c(z))...)
	for _, x := range []struct {
		a, b api.Term
		want api.Errno
	}{
		{m(8, c(z)), c(z), api.ErrShape}, {c(z), m(8, c(z)), api.ErrShape}, {full, c(z), api.ErrFull}, {m(8, c(z)), full, api.ErrShape}, {full, m(8, c(z)), api.ErrFull},
	} {
		got, err := unify.Rename(metas, x.a, x.b)
		if got || err != x.want {
			t.Errorf("Rename = %v, %d; want %d", got, err, x.want)
		}
	}
}
