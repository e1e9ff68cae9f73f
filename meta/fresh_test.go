package meta_test

import (
	"testing"

	"truss/api"
	"truss/build"
	"truss/meta"
	"truss/term"
)

// P8.3: Fresh

// expectFresh checks Fresh: the Class of the new metavariable, and its object.
func expectFresh(t *testing.T, metas []api.Meta, name string, ctx []api.Term, a, class, object api.Term) {
	t.Helper()
	list, got, err := meta.Fresh(metas, name, ctx, a)
	expectList(t, "Fresh", list, err, append(metas[:len(metas):len(metas)], named(name, class)), api.OK)
	expectTerm(t, "Fresh", got, err, object, api.OK)
	expect(t, "Check of Fresh", meta.Check(list), api.OK)
}

func expectNotFresh(t *testing.T, metas []api.Meta, name string, ctx []api.Term, a api.Term, want api.Errno) {
	t.Helper()
	list, got, err := meta.Fresh(metas, name, ctx, a)
	expectList(t, "Fresh", list, err, nil, want)
	expectTerm(t, "Fresh", got, err, api.Term{}, want)
}

func TestFresh(t *testing.T) {
	n := c(nat)
	fun := to(n, n)
	expectFresh(t, nil, "", []api.Term{n}, n, fun, m(0, v(0)))
	expectFresh(t, nil, "N", nil, n, n, m(0))
	metas := []api.Meta{named("A", n), solved(c(vec, m(0)), c(z)), hole(fun)}
	expectFresh(t, metas, "", nil, c(vec, m(0)), c(vec, m(0)), m(3))
	expectFresh(t, metas, "", []api.Term{n, c(vec, v(0))}, c(vec, m(2, v(1))), to(n, c(vec, v(0)), c(vec, m(2, v(1)))), m(3, v(1), v(0)))
	// As many TLams as the type has TPis.
	expectFresh(t, metas, "B", nil, to(n, n, n), to(n, n, n), lams(2, m(3, v(1), v(0))))
	expectFresh(t, metas, "", []api.Term{n, n}, pi(n, c(vec, v(2))), to(n, n, n, c(vec, v(2))), lam(m(3, v(2), v(1), v(0))))
	// Long forms of what is a function.
	second := to(fun, n)
	expectFresh(t, metas, "", []api.Term{fun, n}, n, to(fun, n, n), m(3, lam(v(2, v(0))), v(0)))
	expectFresh(t, metas, "", []api.Term{n}, second, to(n, fun, n), lam(m(3, v(1), lam(v(1, v(0))))))
	expectFresh(t, metas, "", []api.Term{second, n}, second, to(second, n, fun, n), lam(m(3, lam(v(3, lam(v(1, v(0))))), v(1), lam(v(1, v(0))))))
}

func TestFreshErrors(t *testing.T) {
	n := c(nat)
	for _, metas := range unformed() {
		expectNotFresh(t, metas, "", nil, n, api.ErrArg)
	}
	metas := []api.Meta{named("A", n), hole(n)}
	for _, x := range append(build.Improper(), m(2), c(vec, m(9)), pi(n, c(vec, m(2, v(0))))) {
		expectNotFresh(t, metas, "", nil, x, api.ErrArg)
		expectNotFresh(t, metas, "", []api.Term{n, x}, n, api.ErrArg)
	}
	for _, name := range []string{"x", "_", "M ", "type", "1", "ABCDEFGHIJKLMNOPQ"} {
		expectNotFresh(t, metas, name, nil, n, api.ErrArg)
	}
	expectNotFresh(t, metas, "A", nil, n, api.ErrTwice)
	expectNotFresh(t, metas, "", []api.Term{v(0)}, n, api.ErrScope)
	expectNotFresh(t, metas, "", []api.Term{n}, c(vec, v(1)), api.ErrScope)
	expectNotFresh(t, metas, "", nil, to(n, c(vec, v(1))), api.ErrScope)
	for _, x := range []api.Term{typ(), to(n, typ()), lam(n), m(0), pi(m(0), n), to(typ(), n), to(to(n, typ()), n)} {
		expectNotFresh(t, metas, "", nil, x, api.ErrLevel)
		expectNotFresh(t, metas, "", []api.Term{x}, n, api.ErrLevel)
	}
	expectNotFresh(t, metas, "", []api.Term{n}, v(0), api.ErrLevel)
}

// P8.3: the limits

func TestFreshLimits(t *testing.T) {
	n := c(nat)
	expectFresh(t, holes(api.MaxMetas-1), "ABCDEFGHIJKLMNOP", nil, n, n, m(api.MaxMetas-1))
	expectNotFresh(t, holes(api.MaxMetas), "", nil, n, api.ErrFull)
	var all []api.Term
	for i := range api.MaxCtx {
		all = append(all, v(api.MaxCtx-1-i))
	}
	expectFresh(t, nil, "", copies(api.MaxCtx, n), n, products(api.MaxCtx, n), m(0, all...))
	expectNotFresh(t, nil, "", copies(api.MaxCtx+1, n), n, api.ErrArg)
	// The Class is nested too deep, or has too many nodes.
	many := c(vec, copies(300, n)...)
	expectFresh(t, nil, "", []api.Term{many}, c(vec, copies(297, n)...), pi(many, c(vec, copies(297, n)...)), m(0, v(0)))
	expectNotFresh(t, nil, "", []api.Term{many}, c(vec, copies(298, n)...), api.ErrFull)
	deep := products(10, n)
	if _, _, err := meta.Fresh(nil, "", copies(29, n), deep); err != api.OK {
		t.Errorf("a Class that is nested 40 deep: error %d", err)
	}
	expectNotFresh(t, nil, "", copies(30, n), deep, api.ErrFull)
	// An object that is nested too deep, though the Class is not: each level of a has 1 node, of the object 2.
	nested := func(count int) api.Term {
		a := n
		for range count {
			a = to(a, n)
		}
		return a
	}
	if _, object, err := meta.Fresh(nil, "", nil, nested(19)); err != api.OK || depth(object) != 39 {
		t.Errorf("an object without a context: nested %d deep, error %d", depth(object), err)
	}
	expectNotFresh(t, nil, "", nil, nested(20), api.ErrFull)
	// The TLams of the context do not stand around the object.
	if _, object, err := meta.Fresh(nil, "", append(copies(10, n), nested(19)), n); err != api.OK || depth(object) != 40 {
		t.Errorf("an object in a context: nested %d deep, error %d", depth(object), err)
	}
	expectNotFresh(t, nil, "", []api.Term{nested(20)}, n, api.ErrFull)
}

func depth(t api.Term) int {
	_, depth, _ := term.Size(t)
	return depth
}

// P8.3: the order of errors

func TestFreshOrder(t *testing.T) {
	n := c(nat)
	full := append(holes(api.MaxMetas-1), named("A", n))
	deep := products(30, c(vec, v(99)))
	expectNotFresh(t, full, "a", copies(30, n), deep, api.ErrArg)
	expectNotFresh(t, full, "A", copies(31, n), deep, api.ErrArg)
	expectNotFresh(t, full, "A", copies(30, n), deep, api.ErrTwice)
	expectNotFresh(t, full, "B", nil, v(0), api.ErrFull)
	expectNotFresh(t, nil, "B", copies(30, n), deep, api.ErrFull)
	expectNotFresh(t, nil, "B", []api.Term{typ()}, c(vec, v(1)), api.ErrScope)
	expectNotFresh(t, nil, "B", nil, to(lam(v(1)), n), api.ErrScope)
}

// P8.7: Open

func expectNotOpen(t *testing.T, metas []api.Meta, ctx []api.Term, class api.Term, n int, want api.Errno) {
	t.Helper()
	list, objects, rest, err := meta.Open(metas, ctx, class, n)
	expectList(t, "Open", list, err, nil, want)
	expectTerm(t, "Open", rest, err, api.Term{}, want)
	if len(objects) > 0 {
		t.Errorf("Open: %v with error %d", objects, err)
	}
}

// expectOpen checks Open: the Classes of the new metavariables, their objects, and what is left of the class.
func expectOpen(t *testing.T, metas []api.Meta, ctx []api.Term, class api.Term, classes, objects []api.Term, rest api.Term) {
	t.Helper()
	list, got, left, err := meta.Open(metas, ctx, class, len(objects))
	want := metas[:len(metas):len(metas)]
	for _, class := range classes {
		want = append(want, hole(class))
	}
	expectList(t, "Open", list, err, want, api.OK)
	expect(t, "Check of Open", meta.Check(list), api.OK)
	expectTerm(t, "Open", left, err, rest, api.OK)
	if len(got) != len(objects) {
		t.Fatalf("Open: objects %v, want %v", got, objects)
	}
	for i, object := range got {
		expectTerm(t, "Open", object, err, objects[i], api.OK)
	}
}

func TestOpen(t *testing.T) {
	n := c(nat)
	sig := whole()
	expectOpen(t, nil, nil, sig[pz].Class, []api.Term{n}, []api.Term{m(0)}, c(plus, c(z), m(0), m(0)))
	expectOpen(t, nil, nil, sig[pz].Class, nil, nil, sig[pz].Class)
	expectOpen(t, nil, nil, typ(), nil, nil, typ())
	// The domains are those of what is left.
	metas := []api.Meta{named("A", n)}
	expectOpen(t, metas, nil, sig[build.Ps].Class, []api.Term{n, n, n, c(plus, m(1), m(2), m(3))}, []api.Term{m(1), m(2), m(3), m(4)}, c(plus, c(s, m(1)), m(2), c(s, m(3))))
	// In a context.
	ctx := []api.Term{n, c(vec, v(0))}
	expectOpen(t, metas, ctx, pi(c(vec, v(1)), c(plus, v(0), v(2), m(0))), []api.Term{to(n, c(vec, v(0)), c(vec, v(1)))}, []api.Term{m(1, v(1), v(0))}, c(plus, m(1, v(1), v(0)), v(1), m(0)))
	// Objects that are functions are applied.
	fun := to(n, n)
	expectOpen(t, metas, []api.Term{n}, to(fun, c(vec, v(0, v(1))), c(vec, v(1, v(1, c(z))))),
		[]api.Term{to(n, fun), to(n, c(vec, m(1, v(0), v(0))))}, []api.Term{lam(m(1, v(1), v(0))), m(2, v(0))}, c(vec, m(1, v(0), m(1, v(0), c(z)))))
	// A part of the TPis, and a class that is a kind.
	expectOpen(t, nil, nil, to(n, n, n, typ()), []api.Term{n, n}, []api.Term{m(0), m(1)}, to(n, typ()))
}

func TestOpenErrors(t *testing.T) {
	n := c(nat)
	for _, metas := range unformed() {
		expectNotOpen(t, metas, nil, n, 0, api.ErrArg)
	}
	metas := []api.Meta{hole(n), solved(to(n, n), lam(c(z)))}
	for _, x := range append(build.Improper(), m(2), lam(m(9))) {
		expectNotOpen(t, metas, nil, x, 0, api.ErrArg)
		expectNotOpen(t, metas, []api.Term{n, x}, n, 0, api.ErrArg)
	}
	expectNotOpen(t, metas, nil, n, -1, api.ErrArg)
	expectNotOpen(t, metas, nil, to(n, n), -1<<62, api.ErrArg)
	expectNotOpen(t, metas, nil, n, 1, api.ErrShape)
	expectNotOpen(t, metas, nil, to(n, n), 2, api.ErrShape)
	expectNotOpen(t, metas, nil, to(n, n, typ()), 1<<62, api.ErrShape)
	// Those of Fresh.
	expectNotOpen(t, metas, nil, pi(c(vec, v(0)), n), 1, api.ErrScope)
	expectNotOpen(t, metas, []api.Term{n}, pi(c(vec, v(1)), n), 1, api.ErrScope)
	expectNotOpen(t, metas, nil, pi(typ(), n), 1, api.ErrLevel)
	expectNotOpen(t, metas, []api.Term{typ()}, pi(n, n), 1, api.ErrLevel)
	expectNotOpen(t, metas, copies(31, n), pi(n, n), 1, api.ErrArg)
	expectNotOpen(t, metas, copies(30, n), pi(products(10, n), n), 1, api.ErrFull)
	expectNotOpen(t, holes(api.MaxMetas-1), nil, to(n, n, n), 2, api.ErrFull)
	// TPi by TPi: the first error decides.
	expectNotOpen(t, metas, copies(31, n), n, 1, api.ErrShape)
	expectNotOpen(t, holes(api.MaxMetas-1), nil, to(n, n), 2, api.ErrShape)
	expectNotOpen(t, holes(api.MaxMetas), nil, n, 1, api.ErrShape)
	expectNotOpen(t, metas, nil, to(n, typ(), c(vec, v(9)), n), 3, api.ErrLevel)
	// Those of Instance: the object is not applied, or too often, or the result is too large.
	expectNotOpen(t, metas, nil, pi(n, c(vec, v(0, c(z)))), 1, api.ErrShape)
	expectNotOpen(t, metas, nil, pi(to(n, n), c(vec, v(0, c(z), c(z)))), 1, api.ErrShape)
	expectNotOpen(t, metas, copies(20, n), pi(n, c(vec, copies(40, v(0))...)), 1, api.ErrFull)
	// With 0 nothing is done.
	expectOpen(t, metas, copies(31, n), n, nil, nil, n)
	expectOpen(t, holes(api.MaxMetas), nil, to(n, n), nil, nil, to(n, n))
}
