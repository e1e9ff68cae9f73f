package meta_test

import (
	"testing"

	"truss/api"
	"truss/build"
	"truss/meta"
	"truss/term"
)

func expectResolved(t *testing.T, metas []api.Meta, x, want api.Term, wantErr api.Errno) {
	t.Helper()
	got, err := meta.Resolve(metas, x)
	expectTerm(t, "Resolve", got, err, want, wantErr)
}

// P8.2: Resolve

func TestResolve(t *testing.T) {
	n := c(nat)
	fun := to(n, n)
	metas := []api.Meta{
		hole(n), solved(n, c(s, m(0))), solved(fun, lam(c(s, c(s, v(0))))), solved(n, m(2, m(1))), hole(fun),
		solved(to(fun, fun), lams(2, v(1, v(1, v(0))))), solved(to(fun, n, n), lams(2, m(5, lam(v(2, v(0))), v(0)))), solved(n, m(4, c(z))),
	}
	for _, x := range []struct{ given, want api.Term }{
		{typ(), typ()},
		{n, n},
		{v(7), v(7)},
		{m(0), m(0)},
		{m(4, v(3)), m(4, v(3))},
		{m(1), c(s, m(0))},
		{m(2, v(4)), c(s, c(s, v(4)))},
		{m(3), c(s, c(s, c(s, m(0))))},
		{m(7), m(4, c(z))},
		{m(4, m(2, m(1))), m(4, c(s, c(s, c(s, m(0)))))},
		{m(5, lam(c(s, v(0))), v(1)), c(s, c(s, v(1)))},
		{m(5, lam(m(2, v(0))), m(0)), c(s, c(s, c(s, c(s, m(0)))))},
		{m(5, lam(m(4, v(0))), v(0)), m(4, m(4, v(0)))},
		{m(6, lam(v(1, v(0))), m(7)), v(0, v(0, m(4, c(z))))},
		{lam(m(2, v(0))), lam(c(s, c(s, v(0))))},
		{pi(c(vec, m(1)), c(vec, m(2, v(3)))), pi(c(vec, c(s, m(0))), c(vec, c(s, c(s, v(3)))))},
		{lams(2, m(5, lam(v(2, v(0))), v(1))), lams(2, v(1, v(1, v(1))))},
		{v(0, m(1), lam(m(1))), v(0, c(s, m(0)), lam(c(s, m(0))))},
		// A value without its arguments stands as it is; what is well typed is not asked.
		{m(2), lam(c(s, c(s, v(0))))},
		{c(s, typ(), m(2)), c(s, typ(), lam(c(s, c(s, v(0)))))},
	} {
		expectResolved(t, metas, x.given, x.want, api.OK)
	}
}

func TestResolveErrors(t *testing.T) {
	n := c(nat)
	for _, metas := range unformed() {
		expectResolved(t, metas, n, api.Term{}, api.ErrArg)
	}
	for _, x := range append(build.Improper(), m(1), c(s, m(9)), m(0, m(1)), lam(m(1, v(0)))) {
		expectResolved(t, holes(1), x, api.Term{}, api.ErrArg)
		expectResolved(t, holes(1), c(s, x), api.Term{}, api.ErrArg)
	}
	// Applications that do not fit.
	metas := []api.Meta{solved(n, c(z)), solved(to(n, n), c(z)), solved(n, lam(v(0))), solved(to(n, n, n), lam(v(0))), solved(n, m(0, c(z)))}
	for _, x := range []api.Term{m(0, c(z)), m(1, c(z)), m(2, c(z)), m(3, c(z), c(z)), m(4), c(s, m(1, c(z))), lam(m(2, v(0))), m(0, m(0)), c(s, m(0), m(4))} {
		expectResolved(t, metas, x, api.Term{}, api.ErrShape)
	}
	expectResolved(t, metas, c(s, m(0), m(1), m(2), m(3, c(z))), c(s, c(z), c(z), lam(v(0)), c(z)), api.OK)
}

// P8.2: what is not proper

func TestResolveFull(t *testing.T) {
	n := c(nat)
	flat := func(count int) api.Term { return c(s, copies(count-1, c(z))...) }
	deep := func(count int) api.Term { return lams(count-1, c(z)) }
	metas := []api.Meta{solved(n, flat(300)), solved(n, deep(20)), solved(n, flat(299)), solved(to(n, n), lam(c(z))), solved(to(n, n), lam(c(s, v(0), v(0))))}
	for _, x := range []struct {
		given api.Term
		want  api.Errno
	}{
		{c(s, m(0), m(2)), api.OK},
		{c(s, m(0), m(0)), api.ErrFull},
		{c(s, m(0), m(2), c(z)), api.ErrFull},
		{lams(20, m(1)), api.OK},
		{lams(21, m(1)), api.ErrFull},
		{c(s, lams(20, m(1))), api.ErrFull},
		{pi(n, lams(19, m(1))), api.OK},
		{m(4, m(2)), api.OK},
		{m(4, m(0)), api.ErrFull},
		// What is not proper on the way, and not in the end.
		{m(3, c(s, m(0), m(0))), api.ErrFull},
		{m(3, lams(21, m(1))), api.ErrFull},
		{m(3, m(4, m(0))), api.ErrFull},
		{m(3, c(s, m(0), m(2))), api.OK},
		// The arguments of a value may together be more than a term has.
		{m(4, m(3, m(0))), api.OK},
		// The Args come first, from left to right; then what the head is.
		{c(s, m(0), m(0), m(0, c(z))), api.ErrShape},
		{c(s, m(0, c(z)), c(s, m(0), m(0))), api.ErrShape},
		{c(s, c(s, m(0), m(0)), m(0, c(z))), api.ErrFull},
		{m(0, c(s, m(0), m(0))), api.ErrFull},
	} {
		got, err := meta.Resolve(metas, x.given)
		expect(t, "Resolve", err, x.want)
		if err != api.OK && !term.Same(got, api.Term{}) {
			t.Errorf("Resolve = %v, %d", got, err)
		}
	}
}

// P8.2: the spine comes before the value, and only a value that is needed is resolved

func TestResolveOrder(t *testing.T) {
	n := c(nat)
	full, shape := c(s, m(0), m(0)), m(0, c(z))
	metas := []api.Meta{solved(n, c(s, copies(299, c(z))...)), solved(to(n, n), full), solved(to(n, n), shape), solved(to(n, n), lam(c(z)))}
	expectResolved(t, metas, m(1, shape), api.Term{}, api.ErrShape)
	expectResolved(t, metas, m(2, full), api.Term{}, api.ErrFull)
	expectResolved(t, metas, m(1, c(z)), api.Term{}, api.ErrFull)
	expectResolved(t, metas, m(2, c(z)), api.Term{}, api.ErrShape)
	expectResolved(t, metas, c(s, m(1, c(z)), m(2, c(z))), api.Term{}, api.ErrFull)
	expectResolved(t, metas, c(s, m(2, c(z)), m(1, c(z))), api.Term{}, api.ErrShape)
	expectResolved(t, metas, m(3, c(s)), c(z), api.OK)
	// All: from the first metavariable on, the Class before the Value.
	all := func(want api.Errno, more ...api.Meta) {
		t.Helper()
		list, err := meta.All(append(metas[:1:1], more...))
		expectList(t, "All", list, err, nil, want)
	}
	all(api.ErrFull, solved(n, full), solved(n, shape))
	all(api.ErrShape, solved(n, shape), solved(n, full))
	all(api.ErrFull, solved(c(vec, full), shape))
	all(api.ErrShape, solved(c(vec, shape), full))
	all(api.ErrShape, hole(n), hole(c(vec, shape)), solved(n, full))
	all(api.ErrFull, solved(n, m(2)), solved(n, full), hole(c(vec, shape)))
}

// P8.2: each application has its own steps

func TestResolveSteps(t *testing.T) {
	n := c(nat)
	first := to(n, n)
	second := to(first, n)
	third := to(second, n)
	large := c(s, copies(499, c(z))...)
	metas := []api.Meta{solved(to(third, n), lam(v(0, lam(v(0, large)))))}
	// Each of the Args of the result visits what is large, and forgets it.
	work := func(count int) api.Term { return m(0, lam(c(s, copies(count, v(0, lam(c(z))))...))) }
	result := func(count int) api.Term { return c(s, copies(count, c(z))...) }
	expectResolved(t, metas, work(30), result(30), api.OK)
	expectResolved(t, metas, c(s, work(30), work(30)), c(s, result(30), result(30)), api.OK)
	expectResolved(t, metas, work(45), api.Term{}, api.ErrFull)
}

// P8.2: values that contain each other many times are no matter

func TestResolveIsQuick(t *testing.T) {
	n := c(nat)
	const top = api.MaxMetas - 1
	twice := func(after api.Term) api.Term { return c(s, after, after) }
	_, err := meta.All(chain(api.MaxMetas, twice))
	expect(t, "All", err, api.ErrFull)
	expectResolved(t, chain(9, twice), m(0), doubled(8, m(8)), api.OK)
	expectResolved(t, chain(11, twice), m(0), api.Term{}, api.ErrFull)
	// The last one takes two arguments and forgets them.
	forgetful := chain(top, func(after api.Term) api.Term { return m(top, after, after) })
	forgetful = append(forgetful, solved(to(n, n, n), lams(2, c(z))))
	expect(t, "Check", meta.Check(forgetful), api.OK)
	expectResolved(t, forgetful, m(0), c(z), api.OK)
	list, err := meta.All(forgetful)
	expect(t, "All", err, api.OK)
	for _, one := range list[:top-1] {
		if !term.Same(one.Value, c(z)) {
			t.Fatalf("All: a value is %v", one.Value)
		}
	}
	// And without any value.
	for range 5 {
		expectResolved(t, holes(api.MaxMetas), m(top), m(top), api.OK)
	}
}

// doubled returns the term that the constant s makes of two equal terms, so many times.
func doubled(count int, x api.Term) api.Term {
	for range count {
		x = c(s, x, x)
	}
	return x
}

// P8.2: All

func TestAll(t *testing.T) {
	n := c(nat)
	metas := []api.Meta{
		{Name: "A", Class: c(vec, m(1)), Solved: true, Value: m(3, m(2))}, solved(n, c(s, m(2))), named("B", n),
		{Name: "C", Class: pi(c(vec, m(1)), c(vec, m(1))), Solved: true, Value: lam(v(0))}, hole(pi(n, c(vec, m(4+1)))), solved(n, m(1)),
	}
	want := []api.Meta{
		{Name: "A", Class: c(vec, c(s, m(2))), Solved: true, Value: m(2)}, solved(n, c(s, m(2))), named("B", n),
		{Name: "C", Class: pi(c(vec, c(s, m(2))), c(vec, c(s, m(2)))), Solved: true, Value: lam(v(0))}, hole(pi(n, c(vec, c(s, m(2))))), solved(n, c(s, m(2))),
	}
	got, err := meta.All(metas)
	expectList(t, "All", got, err, want, api.OK)
	got, err = meta.All(want)
	expectList(t, "All of a resolved list", got, err, want, api.OK)
	got, err = meta.All(nil)
	expectList(t, "All of nothing", got, err, nil, api.OK)
	got, err = meta.All([]api.Meta{{Class: n, Value: api.Term{Args: []api.Term{}}}})
	expectList(t, "All of an empty value", got, err, holes(1), api.OK)
	for _, metas := range unformed() {
		got, err = meta.All(metas)
		expectList(t, "All", got, err, nil, api.ErrArg)
	}
}
