package meta_test

import (
	"slices"
	"testing"

	"truss/api"
	"truss/build"
	"truss/meta"
)

// P8.4: Pattern

func TestPattern(t *testing.T) {
	for _, x := range []struct {
		given api.Term
		want  []int
	}{
		{m(0), nil},
		{m(0, v(3)), []int{3}},
		{m(7, v(2), v(0), v(9999)), []int{2, 0, 9999}},
		{m(0, lam(v(1, v(0)))), []int{0}},
		{m(0, v(1), lams(2, v(5, v(1), v(0)))), []int{1, 3}},
		{m(0, lam(v(4, lam(v(1, v(0)))))), []int{3}},
	} {
		if got, ok := meta.Pattern(x.given); !ok || !slices.Equal(got, x.want) {
			t.Errorf("Pattern(%v) = %v, %v; want %v", x.given, got, ok, x.want)
		}
	}
	n := c(nat)
	for _, x := range append(build.Improper(),
		n, v(0), v(0, v(1)), c(s, v(0)), typ(), pi(n, n), lam(m(0)), lam(m(0, v(0))), pi(m(0), m(0)),
		m(0, c(z)), m(0, m(1)), m(0, v(0), v(0)), m(0, v(1), v(0), v(1)), m(0, v(0), lam(v(1, v(0)))), m(0, v(0, v(1))), m(0, lam(v(0))),
		m(0, lam(v(1))), m(0, lams(2, v(2, v(0), v(1)))), m(0, lam(c(s, v(0)))), m(0, lam(m(0, v(0)))), m(0, v(0), typ()), m(0, c(z), v(1)),
	) {
		if got, ok := meta.Pattern(x); ok || len(got) > 0 {
			t.Errorf("Pattern(%v) = %v, %v", x, got, ok)
		}
	}
	var wide []api.Term
	for n := range api.MaxNodes - 1 {
		wide = append(wide, v(n))
	}
	// What is not proper, though its head is one.
	for _, x := range []api.Term{m(-1), m(api.MaxN + 1), m(0, v(-1)), {Op: api.TType, Head: api.HMeta}, {Op: 7, Head: api.HMeta}, m(0, append(wide, v(api.MaxN))...)} {
		if got, ok := meta.Pattern(x); ok || len(got) > 0 {
			t.Errorf("Pattern(%v) = %v, %v", x, got, ok)
		}
	}
	if got, ok := meta.Pattern(m(0, wide...)); !ok || len(got) != api.MaxNodes-1 {
		t.Errorf("Pattern of %d variables: %d, %v", len(wide), len(got), ok)
	}
}

// P8.5: Solve

func expectSolved(t *testing.T, metas []api.Meta, n int, value api.Term, want []api.Meta, wantErr api.Errno) {
	t.Helper()
	got, err := meta.Solve(metas, n, value)
	expectList(t, "Solve", got, err, want, wantErr)
}

func TestSolve(t *testing.T) {
	n := c(nat)
	metas := []api.Meta{named("A", n), hole(n), hole(c(vec, m(0))), solved(n, c(s, m(0))), hole(to(n, n))}
	one := c(s, c(z))
	expectSolved(t, metas, 0, one, []api.Meta{{Name: "A", Class: n, Solved: true, Value: one}, hole(n), hole(c(vec, one)), solved(n, c(s, one)), hole(to(n, n))}, api.OK)
	expectSolved(t, metas, 1, c(s, m(0)), []api.Meta{named("A", n), solved(n, c(s, m(0))), hole(c(vec, m(0))), solved(n, c(s, m(0))), hole(to(n, n))}, api.OK)
	expectSolved(t, metas, 1, m(3), []api.Meta{named("A", n), solved(n, c(s, m(0))), hole(c(vec, m(0))), solved(n, c(s, m(0))), hole(to(n, n))}, api.OK)
	expectSolved(t, metas, 4, lam(c(plus, m(1), v(0))), []api.Meta{named("A", n), hole(n), hole(c(vec, m(0))), solved(n, c(s, m(0))), solved(to(n, n), lam(c(plus, m(1), v(0))))}, api.OK)
	// What is well typed is not asked.
	expectSolved(t, metas[:1], 0, typ(), []api.Meta{{Name: "A", Class: n, Solved: true, Value: typ()}}, api.OK)
}

func TestSolveErrors(t *testing.T) {
	n := c(nat)
	for _, metas := range unformed() {
		expectSolved(t, metas, 0, n, nil, api.ErrArg)
	}
	metas := []api.Meta{hole(n), hole(n), hole(c(vec, m(0))), solved(n, c(s, m(0))), solved(to(n, n), c(z))}
	for _, x := range append(build.Improper(), m(5), lam(m(9))) {
		expectSolved(t, metas, 0, x, nil, api.ErrArg)
		expectSolved(t, metas, -1, x, nil, api.ErrArg)
	}
	for _, number := range []int{-1, 5, 80, 1 << 62} {
		expectSolved(t, metas, number, v(0), nil, api.ErrNone)
	}
	expectSolved(t, nil, 0, c(z), nil, api.ErrNone)
	expectSolved(t, metas, 3, v(0), nil, api.ErrTwice)
	expectSolved(t, metas, 3, c(s, m(0)), nil, api.ErrTwice)
	for _, x := range []api.Term{v(0), lam(v(1)), c(s, v(9)), m(4, v(0))} {
		expectSolved(t, metas, 0, x, nil, api.ErrScope)
	}
	// A circle: over the value, a Class, or another Value.
	for _, x := range []api.Term{m(0), c(s, m(0)), lam(m(0)), m(2), m(3), c(plus, m(1), c(z), m(3)), c(s, m(4, c(z)), m(0))} {
		expectSolved(t, metas, 0, x, nil, api.ErrScope)
	}
	expectSolved(t, metas[:2], 1, c(s, m(0)), []api.Meta{hole(n), solved(n, c(s, m(0)))}, api.OK)
	expectSolved(t, []api.Meta{hole(n), solved(n, c(s, m(0)))}, 0, c(s, m(1)), nil, api.ErrScope)
	// It needs what is in its Class, and not the other way round.
	expectSolved(t, metas[:3], 2, m(0), []api.Meta{hole(n), hole(n), solved(c(vec, m(0)), m(0))}, api.OK)
	// Those of All, also of others.
	expectSolved(t, metas, 1, m(4, c(z)), nil, api.ErrShape)
	expectSolved(t, append(metas[:4:4], solved(n, m(1, c(z)))), 1, c(z), nil, api.ErrShape)
	expectSolved(t, append(metas[:4:4], solved(n, c(s, m(1), m(1)))), 1, c(s, copies(300, c(z))...), nil, api.ErrFull)
	expectSolved(t, append(metas[:4:4], solved(n, c(s, m(1), m(1)))), 1, m(4), nil, api.ErrScope)
}

// P8.6: Order

func expectOrder(t *testing.T, metas []api.Meta, x api.Term, want []int, wantErr api.Errno) {
	t.Helper()
	if got, err := meta.Order(metas, x); err != wantErr || !slices.Equal(got, want) {
		t.Errorf("Order(%v) = %v, %d; want %v, %d", x, got, err, want, wantErr)
	}
}

func TestOrder(t *testing.T) {
	n := c(nat)
	metas := []api.Meta{
		hole(n), hole(c(vec, m(3))), solved(n, c(s, m(4))), hole(n), hole(to(n, n)), hole(c(plus, m(1), m(0), m(2))),
		hole(to(c(vec, m(3)), c(vec, m(0)))), solved(to(n, n), lam(c(z))), hole(c(vec, m(2))), hole(c(vec, m(7, m(0)))),
	}
	for _, x := range []struct {
		given api.Term
		want  []int
	}{
		{n, nil},
		{m(0), []int{0}},
		{c(plus, m(3), m(0), m(3)), []int{3, 0}},
		{m(1), []int{3, 1}},                         // first what its Class needs
		{c(plus, m(3), m(1), m(0)), []int{3, 1, 0}}, // but only once
		{m(2), []int{4}},                            // what its value needs
		{m(5), []int{3, 1, 0, 4, 5}},
		{m(4, m(3)), []int{4, 3}}, // the head, then the spine
		{m(6, m(1)), []int{3, 0, 6, 1}},
		{pi(c(vec, m(0)), c(vec, m(3))), []int{0, 3}}, // the domain, then the body
		{lam(c(s, m(1), v(7))), []int{3, 1}},
		{m(7, m(0)), nil},   // it is forgotten
		{m(8), []int{4, 8}}, // what its resolved Class needs
		{m(9), []int{9}},
		{c(s, c(s, m(0), m(3)), m(4)), []int{0, 3, 4}},
	} {
		expectOrder(t, metas, x.given, x.want, api.OK)
	}
	long := chain(api.MaxMetas, func(after api.Term) api.Term { return after })
	for n := range long {
		long[n] = hole(c(vec, m(min(n+1, api.MaxMetas-1))))
	}
	long[api.MaxMetas-1] = hole(n)
	var want []int
	for n := range api.MaxMetas {
		want = append(want, api.MaxMetas-1-n)
	}
	expectOrder(t, long, m(0), want, api.OK)
}

func TestOrderErrors(t *testing.T) {
	n := c(nat)
	for _, metas := range unformed() {
		expectOrder(t, metas, n, nil, api.ErrArg)
	}
	metas := []api.Meta{solved(n, c(s, copies(300, c(z))...)), hole(c(vec, m(0), m(0))), hole(c(vec, m(0, c(z)))), hole(n), hole(c(vec, m(1), m(2)))}
	for _, x := range append(build.Improper(), m(5), c(s, m(9))) {
		expectOrder(t, metas, x, nil, api.ErrArg)
	}
	expectOrder(t, metas, c(s, m(0), m(0)), nil, api.ErrFull)
	expectOrder(t, metas, m(0, c(z)), nil, api.ErrShape)
	// Classes are resolved where they are needed: first of all the term, then the first one of them.
	expectOrder(t, metas, m(3), []int{3}, api.OK)
	expectOrder(t, metas, m(1), nil, api.ErrFull)
	expectOrder(t, metas, m(2), nil, api.ErrShape)
	expectOrder(t, metas, m(4), nil, api.ErrFull)
	expectOrder(t, metas, c(s, m(2), m(1)), nil, api.ErrShape)
	expectOrder(t, metas, c(s, m(2), c(s, m(0), m(0))), nil, api.ErrFull)
}

// P8.6: Abstract

func expectAbstract(t *testing.T, metas []api.Meta, class, want api.Term, count int, wantErr api.Errno) {
	t.Helper()
	got, n, err := meta.Abstract(metas, class)
	expectTerm(t, "Abstract", got, err, want, wantErr)
	if n != count {
		t.Errorf("Abstract(%v): %d metavariables, want %d", class, n, count)
	}
}

func TestAbstract(t *testing.T) {
	n := c(nat)
	expectAbstract(t, holes(1), c(plus, c(z), m(0), m(0)), pi(n, c(plus, c(z), v(0), v(0))), 1, api.OK)
	expectAbstract(t, nil, to(n, typ()), to(n, typ()), 0, api.OK)
	metas := []api.Meta{hole(n), hole(c(vec, m(0))), solved(n, c(s, m(0))), hole(to(n, n)), hole(pi(n, c(vec, m(3, v(0))))), hole(c(vec, m(2)))}
	expectAbstract(t, metas, c(vec, m(2)), pi(n, c(vec, c(s, v(0)))), 1, api.OK)
	// Also the domains are resolved.
	expectAbstract(t, metas, c(nat, m(5)), to(n, c(vec, c(s, v(0))), c(nat, v(0))), 2, api.OK)
	// Domains may contain those before them; numbers are counted below binders.
	expectAbstract(t, metas, pi(c(vec, m(0)), c(nat, m(1), v(0))), to(n, c(vec, v(0)), pi(c(vec, v(1)), c(nat, v(1), v(0)))), 2, api.OK)
	expectAbstract(t, metas, c(nat, m(1), m(0)), to(n, c(vec, v(0)), c(nat, v(0), v(1))), 2, api.OK)
	expectAbstract(t, metas, pi(n, c(nat, m(4, v(0)), lam(m(3, v(1))))), to(to(n, n), pi(n, c(vec, v(1, v(0)))), pi(n, c(nat, v(1, v(0)), lam(v(3, v(1)))))), 2, api.OK)
	// A kind, and what is neither a kind nor a type.
	expectAbstract(t, metas, pi(c(vec, m(0)), typ()), to(n, c(vec, v(0)), typ()), 1, api.OK)
	expectAbstract(t, metas, m(0), pi(n, v(0)), 1, api.OK)
	// What is forgotten is no matter.
	metas[2] = solved(to(n, n), lam(c(z)))
	expectAbstract(t, metas, c(vec, m(2, m(1))), c(vec, c(z)), 0, api.OK)
}

func TestAbstractErrors(t *testing.T) {
	n := c(nat)
	for _, metas := range unformed() {
		expectAbstract(t, metas, n, api.Term{}, 0, api.ErrArg)
	}
	metas := []api.Meta{solved(n, c(s, copies(300, c(z))...)), solved(to(n, n), lam(c(z))), hole(c(vec, m(0), m(0))), hole(c(vec, m(0, c(z))))}
	for _, x := range append(build.Improper(), m(4), c(s, m(9))) {
		expectAbstract(t, metas, x, api.Term{}, 0, api.ErrArg)
	}
	for _, x := range []api.Term{v(0), c(vec, v(0)), pi(n, c(vec, v(1))), c(vec, m(1, v(0))), c(vec, v(0), m(0, c(z)))} {
		expectAbstract(t, metas, x, api.Term{}, 0, api.ErrScope)
	}
	expectAbstract(t, metas, c(vec, m(0), m(0)), api.Term{}, 0, api.ErrFull)
	expectAbstract(t, metas, c(vec, m(0, c(z))), api.Term{}, 0, api.ErrShape)
	expectAbstract(t, metas, c(vec, m(2)), api.Term{}, 0, api.ErrFull)
	expectAbstract(t, metas, c(vec, m(3)), api.Term{}, 0, api.ErrShape)
	expectAbstract(t, metas, c(vec, m(3), m(2)), api.Term{}, 0, api.ErrShape)
}

func TestAbstractLimits(t *testing.T) {
	n := c(nat)
	all := func(count int) api.Term {
		x := c(vec)
		for n := range count {
			x.Args = append(x.Args, m(n))
		}
		return x
	}
	variables := c(vec)
	for i := range 38 {
		variables.Args = append(variables.Args, v(37-i))
	}
	expectAbstract(t, holes(api.MaxMetas), all(38), products(38, variables), 38, api.OK)
	expectAbstract(t, holes(api.MaxMetas), all(39), api.Term{}, 0, api.ErrFull)
	expectAbstract(t, holes(api.MaxMetas), all(api.MaxMetas), api.Term{}, 0, api.ErrFull)
	// 1 for the TPi, 299 for its domain, 300 for its body.
	metas := []api.Meta{hole(c(vec, copies(298, c(z))...))}
	body := func(x api.Term, more int) api.Term { return c(vec, append(copies(more, c(z)), x)...) }
	expectAbstract(t, metas, body(m(0), 298), pi(metas[0].Class, body(v(0), 298)), 1, api.OK)
	expectAbstract(t, metas, body(m(0), 299), api.Term{}, 0, api.ErrFull)
	expectAbstract(t, holes(1), c(vec, lams(37, m(0))), pi(n, c(vec, lams(37, v(37)))), 1, api.OK)
	expectAbstract(t, holes(1), c(vec, lams(38, m(0))), api.Term{}, 0, api.ErrFull)
}
