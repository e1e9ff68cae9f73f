package unify_test

import (
	"testing"

	"truss/api"
)

// expectBoth checks what an equation comes to, and that it is the same with its sides exchanged.
func expectBoth(t *testing.T, metas []api.Meta, q api.Equation, want []api.Meta, left ...api.Equation) {
	t.Helper()
	expectUnified(t, metas, list(q), want, left...)
	var turned []api.Equation
	for _, one := range left {
		turned = append(turned, api.Equation{Ctx: one.Ctx, A: one.B, B: one.A, Class: one.Class})
	}
	expectUnified(t, metas, list(api.Equation{Ctx: q.Ctx, A: q.B, B: q.A, Class: q.Class}), want, turned...)
}

func expectBothLeft(t *testing.T, metas []api.Meta, q api.Equation) {
	t.Helper()
	expectBoth(t, metas, q, metas, q)
}

func expectBothFailed(t *testing.T, metas []api.Meta, q api.Equation, want api.Errno) {
	t.Helper()
	expectFailed(t, metas, list(q), want)
	expectFailed(t, metas, list(api.Equation{Ctx: q.Ctx, A: q.B, B: q.A, Class: q.Class}), want)
}

// P9.1: bind, values

func TestBind(t *testing.T) {
	metas := append(some(), hole(to(c(tm), c(tm), c(tm))))
	for _, x := range []struct {
		side, other api.Term
		n           int
		value       api.Term
	}{
		{m(0), c(z), 0, c(z)},
		{m(1, v(0)), c(z), 1, lam(c(z))},
		{m(1, v(2)), v(2), 1, lam(v(0))},
		{m(2, v(0), v(2)), v(0), 2, lams(2, v(1))},
		{m(2, v(0), v(2)), v(2), 2, lams(2, v(0))},
		{m(3, v(2), v(0), v(1)), c(plus, v(0), v(1), v(2)), 3, lams(3, c(plus, v(1), v(0), v(2)))},
		// Variables that are heads, and those that T binds, also below a TPi.
		{m(1, v(1)), v(1, c(z), v(1)), 1, lam(v(0, c(z), v(0)))},
		{m(1, v(1)), c(lambda, lam(v(0, v(2), v(2, v(0))))), 1, lam(c(lambda, lam(v(0, v(1), v(1, v(0))))))},
		{m(2, v(1), v(0)), c(s, pi(v(0), c(vec, v(0), v(1), v(2)))), 2, lams(2, c(s, pi(v(0), c(vec, v(0), v(1), v(2)))))},
		{m(1, v(0)), c(s, typ(), pi(v(0), typ())), 1, lam(c(s, typ(), pi(v(0), typ())))},
		// Long forms of variables are variables.
		{m(4, lam(v(2, v(0)))), v(1, c(z)), 4, lam(v(0, c(z)))},
		{m(4, lam(v(1, v(0)))), v(0, v(0, c(z))), 4, lam(v(0, v(0, c(z))))},
		// Metavariables of the other side, in patterns or not.
		{m(1, v(0)), c(s, m(0)), 1, lam(c(s, m(0)))},
		{m(1, v(0)), c(s, m(2, v(0), c(z))), 1, lam(c(s, m(2, v(0), c(z))))},
		{m(2, v(1), v(0)), c(s, m(3, v(0), v(1), v(1))), 2, lams(2, c(s, m(3, v(0), v(1), v(1))))},
		{m(2, v(1), v(0)), c(lambda, lam(m(3, v(0), v(2), v(1)))), 2, lams(2, c(lambda, lam(m(3, v(0), v(2), v(1)))))},
		{m(2, v(1), v(0)), m(4, lam(c(plus, v(0), v(1), v(2)))), 2, lams(2, m(4, lam(c(plus, v(0), v(1), v(2)))))},
		{m(0), m(1, m(1, c(z))), 0, m(1, m(1, c(z)))},
	} {
		expectBoth(t, metas, eq(3, x.side, x.other), with(metas, x.n, x.value))
	}
	// The Class of the equation is not looked at, nor what the variables of a pattern are.
	odd := api.Equation{A: m(1, v(9)), B: v(9), Class: m(0)}
	expectBoth(t, metas, odd, with(metas, 1, lam(v(0))))
}

// P9.1: case 6, both sides are patterns

func TestBothPatterns(t *testing.T) {
	metas := some()
	for _, x := range []struct {
		a, b  api.Term
		n     int
		value api.Term
	}{
		// The greater number gets the value.
		{m(1, v(0)), m(2, v(0), v(1)), 2, lams(2, m(1, v(1)))},
		{m(1, v(0)), m(2, v(1), v(0)), 2, lams(2, m(1, v(0)))},
		{m(0), m(1, v(0)), 1, lam(m(0))},
		{m(0), m(3, v(2), v(0), v(1)), 3, lams(3, m(0))},
		// Or the only one that is a pattern.
		{m(1, v(0)), m(3, v(0), v(0), v(0)), 1, lam(m(3, v(0), v(0), v(0)))},
		{m(2, v(0), v(0)), m(3, v(0), v(1), v(2)), 3, lams(3, m(2, v(2), v(2)))},
		{m(0), m(2, c(z), c(z)), 0, m(2, c(z), c(z))},
	} {
		expectBoth(t, metas, eq(3, x.a, x.b), with(metas, x.n, x.value))
	}
	// Where it has no effect, the other one gets it: because of what is needed, or of what cannot be cut.
	metas = []api.Meta{hole(c(vec, m(1))), hole(c(nat))}
	expectBoth(t, metas, eq(0, m(0), m(1)), with(metas, 0, m(1)))
	metas = []api.Meta{hole(pi(c(nat), pi(c(nat), c(vec, v(0))))), hole(arrows(1))}
	expectBoth(t, metas, eq(2, m(0, v(1), v(0)), m(1, v(1))), with(metas, 0, lams(2, m(1, v(1)))))
	// Or none of them does.
	metas = []api.Meta{hole(pi(c(nat), c(vec, v(0)))), hole(pi(c(nat), c(vec, v(0))))}
	expectBothLeft(t, metas, eq(2, m(0, v(1)), m(1, v(0))))
}

// P9.1: bind, what is met first

func TestOccurs(t *testing.T) {
	metas := some()
	for _, x := range []struct{ side, other api.Term }{
		{m(0), c(s, m(0))},
		{m(0), c(s, c(s, m(0)))},
		{m(1, v(0)), v(0, m(1, v(0)))},
		{m(1, v(0)), c(s, m(1, v(0)))},
		{m(1, v(0)), c(s, m(1, v(1)))},
		{m(1, v(0)), c(lambda, lam(m(1, v(0))))},
		{m(2, v(0), v(1)), c(plus, v(0), v(1), m(2, v(1), v(2)))},
		{m(4, lam(v(1, v(0)))), c(s, m(4, lam(v(1, v(0)))))},
		{m(0), c(s, arrows(0), pi(c(nat), m(0)))},
	} {
		expectBothFailed(t, metas, eq(3, x.side, x.other), api.ErrClash)
	}
	for _, x := range []struct{ side, other api.Term }{
		// It may put an argument, or nothing of it, into its result.
		{m(1, v(0)), c(s, m(1, c(z)))},
		{m(1, v(0)), c(s, m(1, m(1, v(0))))},
		{m(2, v(0), v(1)), c(s, m(2, v(0), v(0)))},
		{m(1, v(0)), m(1, c(z))},
		{m(1, v(0)), m(1, m(1, v(0)))},
		{m(2, v(0), v(1)), m(2, v(0), v(0))},
		// What another one makes of it is not known.
		{m(0), m(1, m(0))},
		{m(0), c(s, m(1, m(0)))},
		{m(0), c(s, m(4, lam(m(0))))},
		{m(1, v(0)), m(2, m(1, v(0)), v(0))},
	} {
		expectBothLeft(t, metas, eq(3, x.side, x.other))
	}
}

func TestScope(t *testing.T) {
	metas := some()
	for _, x := range []struct{ side, other api.Term }{
		{m(0), v(0)},
		{m(0), c(s, v(2))},
		{m(1, v(0)), v(1)},
		{m(1, v(0)), v(7)},
		{m(1, v(0)), v(1, v(0))},
		{m(1, v(0)), c(lambda, lam(v(2)))},
		{m(1, v(0)), c(s, c(nat), pi(v(0), v(2)))},
		{m(2, v(2), v(1)), c(plus, v(2), v(1), v(0))},
		// What stands after it does not matter.
		{m(1, v(0)), v(1, m(1, v(0)))},
		{m(1, v(0)), c(plus, c(z), v(1), m(1, v(0)))},
	} {
		expectBothFailed(t, metas, eq(3, x.side, x.other), api.ErrScope)
	}
	// And what stands before it decides.
	expectBothFailed(t, metas, eq(3, m(1, v(0)), c(plus, c(z), m(1, v(0)), v(1))), api.ErrClash)
	expectBothFailed(t, metas, eq(3, m(1, v(0)), c(plus, c(z), m(1, v(1)), v(1))), api.ErrClash)
	for _, x := range []struct{ side, other api.Term }{
		// In the spine of a metavariable it may vanish.
		{m(1, v(0)), m(2, v(1), v(1))},
		{m(1, v(0)), c(s, m(2, v(0), c(s, v(1))))},
		{m(1, v(0)), c(s, m(4, lam(v(2))))},
		{m(1, v(0)), c(s, m(4, lam(m(2, v(0), v(2)))))},
		{m(0), m(1, c(s, v(0)))},
		{m(1, v(0)), c(plus, c(z), m(1, c(z)), v(1))},
		{m(1, v(0)), c(plus, c(z), m(2, v(1), v(1)), v(1))},
		{m(1, v(0)), c(plus, c(z), m(2, v(1), v(1)), m(1, v(0)))},
		{m(1, v(0)), m(2, m(2, v(2), v(1)), v(0))},
	} {
		expectBothLeft(t, metas, eq(3, x.side, x.other))
	}
}

// P9.1: bind, metavariables that need each other

func TestNeeds(t *testing.T) {
	metas := []api.Meta{hole(c(nat)), hole(c(vec, m(0))), hole(c(nat)), hole(to(c(vec, m(0)), c(nat))), hole(c(vec, m(3, m(1)))), hole(to(c(vec, m(2)), c(nat)))}
	expectBothLeft(t, metas, eq(0, m(0), c(s, m(1))))
	expectBothLeft(t, metas, eq(0, m(0), m(3, c(empty))))
	// Over more than one step, too.
	expectBothLeft(t, metas, eq(0, m(0), c(s, m(4))))
	expectBothLeft(t, metas, eq(0, m(0), m(5, m(4))))
	expectBoth(t, metas, eq(1, m(2), c(s, m(4))), []api.Meta{metas[0], metas[1], solved(c(nat), c(s, m(4))), metas[3], metas[4], hole(to(c(vec, c(s, m(4))), c(nat)))})
	// With a value it is no longer needed.
	l := list(eq(0, m(0), c(s, m(1))), eq(0, m(1), c(empty)))
	want := []api.Meta{solved(c(nat), c(s, c(empty))), solved(c(vec, c(s, c(empty))), c(empty)), hole(c(nat))}
	expectUnified(t, metas[:3], l, want)
	// What is met in the side comes before what it needs.
	expectBothFailed(t, metas, eq(1, m(0), c(plus, m(1), c(z), v(0))), api.ErrScope)
	expectBothFailed(t, metas, eq(1, m(0), c(plus, m(1), c(z), m(0))), api.ErrClash)
}

// cutAt returns the value of a metavariable that is cut: so many TLams around the metavariable n with variables.
func cutAt(lambdas, n int, variables ...int) api.Term {
	var spine []api.Term
	for _, n := range variables {
		spine = append(spine, v(n))
	}
	return lams(lambdas, m(n, spine...))
}

// P9.1: cut, in a bind

func TestCut(t *testing.T) {
	metas := some()
	// The new metavariable has the number 5; then the equation is worked on again.
	for _, x := range []struct {
		side, other api.Term
		n           int
		value       api.Term
		cut         int
		cutValue    api.Term
		class       api.Term
	}{
		{m(1, v(0)), c(s, m(2, v(0), v(1))), 1, lam(c(s, m(5, v(0)))), 2, cutAt(2, 5, 1), arrows(1)},
		{m(1, v(0)), c(s, m(2, v(1), v(0))), 1, lam(c(s, m(5, v(0)))), 2, cutAt(2, 5, 0), arrows(1)},
		{m(0), c(s, m(2, v(1), v(0))), 0, c(s, m(5)), 2, cutAt(2, 5), arrows(0)},
		{m(1, v(1)), c(s, m(3, v(0), v(1), v(2))), 1, lam(c(s, m(5, v(0)))), 3, cutAt(3, 5, 1), arrows(1)},
		{m(2, v(0), v(2)), c(s, m(3, v(0), v(1), v(2))), 2, lams(2, c(s, m(5, v(1), v(0)))), 3, cutAt(3, 5, 2, 0), arrows(2)},
		// Variables that the side binds may stay.
		{m(1, v(0)), c(lambda, lam(m(2, v(0), v(2)))), 1, lam(c(lambda, lam(m(5, v(0))))), 2, cutAt(2, 5, 1), arrows(1)},
		{m(0), c(lambda, lam(m(1, v(1)))), 0, c(lambda, lam(m(5))), 1, cutAt(1, 5), arrows(0)},
		{m(0), c(s, pi(c(nat), m(2, v(1), v(0)))), 0, c(s, pi(c(nat), m(5, v(0)))), 2, cutAt(2, 5, 0), arrows(1)},
		// Functions are variables, too.
		{m(1, v(0)), c(s, m(4, lam(v(2, v(0))))), 1, lam(c(s, m(5))), 4, cutAt(1, 5), arrows(0)},
	} {
		want := append(with(metas, x.cut, x.cutValue), hole(x.class))
		expectBoth(t, metas, eq(3, x.side, x.other), with(want, x.n, x.value))
	}
	// Several ones, from left to right.
	want := append(with(with(with(metas, 0, c(plus, m(5), m(6), m(5))), 2, cutAt(2, 5)), 1, cutAt(1, 6)), hole(c(nat)), hole(c(nat)))
	expectBoth(t, metas, eq(3, m(0), c(plus, m(2, v(0), v(1)), m(1, v(1)), m(2, v(2), v(0)))), want)
	// What stands before decides.
	expectBothFailed(t, metas, eq(3, m(0), c(plus, m(1, v(0)), v(0), c(z))), api.ErrScope)
	expectBothFailed(t, metas, eq(3, m(0), c(plus, m(1, v(0)), m(0), v(0))), api.ErrClash)
	want = append(with(metas, 1, cutAt(1, 5)), hole(c(nat)))
	expectBoth(t, metas, eq(3, m(0), c(plus, m(1, v(0)), m(2, v(0), v(0)), v(0))), want, eq(3, m(0), c(plus, m(5), m(2, v(0), v(0)), v(0))))
}

// P9.1: cut, where both sides are patterns: each one is cut to the variables of the other one

func TestCutBoth(t *testing.T) {
	metas := some()
	want := append(with(with(metas, 2, cutAt(2, 5, 1)), 3, lams(3, m(5, v(0)))), hole(arrows(1)), solved(arrows(1), lam(m(5, v(0)))))
	expectBoth(t, metas, eq(4, m(2, v(1), v(0)), m(3, v(2), v(3), v(1))), want)
	want = append(with(with(metas, 2, cutAt(2, 5)), 4, lam(m(5))), hole(c(nat)), solved(c(nat), m(5)))
	expectBoth(t, metas, eq(3, m(4, lam(v(1, v(0)))), m(2, v(1), v(2))), want)
}

// P9.1: cut, the Class of the new metavariable

func TestCutClasses(t *testing.T) {
	n, fun := c(nat), arrows(1)
	// {x:nat} vec x -> (nat -> nat) -> {y:nat} vec y -> vec x, and variables of these types.
	class := to(n, c(vec, v(0)), fun, n, c(vec, v(0)), c(vec, v(4)))
	ctx := []api.Term{n, c(vec, v(0)), fun, n, c(vec, v(0))}
	f := lam(v(3, v(0)))
	all := m(1, v(4), v(3), f, v(1), v(0))
	metas := []api.Meta{hole(n), hole(class), hole(to(fun, n, n)), hole(to(n, fun, n, n)), hole(to(n, n))}
	at := func(side, other api.Term) api.Equation {
		return api.Equation{Ctx: ctx, A: side, B: c(s, other), Class: n}
	}
	// y and what depends on it is left out.
	want := append(with(metas, 1, lams(5, m(5, v(4), v(3), lam(v(3, v(0)))))), hole(to(n, c(vec, v(0)), fun, c(vec, v(2)))))
	want = with(want, 3, lams(3, c(s, m(5, v(2), v(0), lam(v(2, v(0)))))))
	expectBoth(t, metas, at(m(3, v(4), f, v(3)), all), want)
	// What remains depends on what does not: vec y on y, vec x on x, the result on x.
	expectBothLeft(t, metas, at(m(3, v(4), f, v(0)), all))
	expectBothLeft(t, metas, at(m(2, f, v(3)), all))
	expectBothLeft(t, metas, at(m(2, f, v(1)), all))
	expectBothLeft(t, metas, at(m(0), all))
	// The Class has fewer TPis than there are arguments, or more.
	expectBothLeft(t, metas, at(m(4, v(0)), m(2, f, v(1), v(3))))
	want = append(with(with(metas, 4, lam(c(s, m(5)))), 2, lam(m(5))), hole(to(n, n)))
	expectBoth(t, metas, at(m(4, v(0)), m(2, f)), want)
	// A Class is resolved when it is cut.
	metas = append(metas, hole(to(c(vec, m(0)), n, n)))
	want = append(with(with(with(metas, 0, c(z)), 4, lam(c(s, m(6, v(0))))), 5, cutAt(2, 6, 1)), hole(to(c(vec, c(z)), n)))
	want[5].Class = to(c(vec, c(z)), n, n)
	l := list(eq(0, m(0), c(z)), at(m(4, v(0)), m(5, v(0), v(1))))
	expectUnified(t, metas, l, want)
}

// P9.1: meet

func TestMeet(t *testing.T) {
	metas := append(some(), hole(to(c(nat), c(vec, v(0)), c(vec, v(1)), c(nat))), hole(to(c(nat), c(vec, v(0)))), hole(to(arrows(1), c(nat), c(nat))))
	fresh := len(metas)
	for _, x := range []struct {
		a, b  api.Term
		value api.Term
		class api.Term
	}{
		{m(1, v(0)), m(1, v(1)), cutAt(1, fresh), arrows(0)},
		{m(2, v(0), v(1)), m(2, v(1), v(0)), cutAt(2, fresh), arrows(0)},
		{m(2, v(0), v(1)), m(2, v(0), v(2)), cutAt(2, fresh, 1), arrows(1)},
		{m(2, v(2), v(1)), m(2, v(0), v(1)), cutAt(2, fresh, 0), arrows(1)},
		{m(3, v(0), v(1), v(2)), m(3, v(2), v(1), v(0)), cutAt(3, fresh, 1), arrows(1)},
		{m(3, v(0), v(1), v(2)), m(3, v(0), v(3), v(2)), cutAt(3, fresh, 2, 0), arrows(2)},
		{m(5, v(0), v(1), v(2)), m(5, v(0), v(3), v(2)), cutAt(3, fresh, 2, 0), to(c(nat), c(vec, v(0)), c(nat))},
		{m(4, lam(v(1, v(0)))), m(4, lam(v(2, v(0)))), cutAt(1, fresh), arrows(0)},
		{m(7, lam(v(1, v(0))), v(1)), m(7, lam(v(1, v(0))), v(2)), lams(2, m(fresh, lam(v(2, v(0))))), to(arrows(1), c(nat))},
	} {
		n := x.a.N
		expectBoth(t, metas, eq(4, x.a, x.b), append(with(metas, n, x.value), hole(x.class)))
	}
	// All the same, though written for other types: nothing.
	expectBoth(t, metas, eq(2, m(2, v(1), lam(v(1, v(0)))), m(2, lam(v(2, v(0))), v(0))), metas)
	for _, x := range []struct{ a, b api.Term }{
		// What remains depends on what does not.
		{m(5, v(0), v(1), v(2)), m(5, v(3), v(1), v(2))},
		{m(6, v(0)), m(6, v(1))},
		// Different lengths, and a Class that is too short.
		{m(2, v(0)), m(2, v(0), v(1))},
		{m(2, v(0), v(1)), m(2)},
		{m(1, v(0), v(1)), m(1, v(1), v(0))},
		// No patterns.
		{m(1, c(z)), m(1, v(0))},
		{m(2, v(0), v(0)), m(2, v(0), v(1))},
		{m(2, v(0), v(0)), m(2, v(1), v(1))},
		{m(1, c(z)), m(1, c(s, c(z)))},
	} {
		expectBothLeft(t, metas, eq(4, x.a, x.b))
	}
	// What is left is worked on again after a cut.
	l := list(eq(1, m(1, c(z)), c(z)), eq(2, m(1, v(0)), m(1, v(1))))
	expectUnified(t, metas, l, append(with(metas, 1, lam(c(z))), solved(c(nat), c(z))))
	expectFailed(t, metas, append(l, eq(2, m(1, v(0)), c(s, m(1, v(1))))), api.ErrClash)
	// An equation that waits may be between two patterns.
	expectFailed(t, metas, list(eq(2, m(6, v(0)), m(6, v(1))), eq(1, m(6, v(0)), v(0))), api.ErrClash)
}

// P9.1: what a pattern is

func TestPatterns(t *testing.T) {
	metas := some()
	for _, side := range []api.Term{m(1, c(z)), m(1, c(s, v(0))), m(1, m(0)), m(2, v(0), v(0)), m(1, typ()), m(1, arrows(1)), m(4, lam(v(0))), m(4, lam(c(z))), m(2, v(0), c(s, v(0)))} {
		expectBothLeft(t, metas, eq(2, side, c(z)))
		expectBothLeft(t, metas, eq(2, side, v(1)))
	}
}
