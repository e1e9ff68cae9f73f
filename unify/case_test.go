package unify_test

import (
	"testing"

	"truss/api"
	"truss/build"
	"truss/unify"
)

// P9.1: the examples of the chapter

func TestExamples(t *testing.T) {
	metas := some()
	expectUnified(t, metas, list(eq(0, c(s, m(0)), c(s, c(s, c(z))))), with(metas, 0, c(s, c(z))))
	expectUnified(t, metas, list(eq(2, m(1, v(1)), c(s, v(1)))), with(metas, 1, lam(c(s, v(0)))))
	expectFailed(t, metas, list(eq(2, m(1, v(1)), c(s, v(0)))), api.ErrScope)
	expectUnified(t, metas, list(eq(2, m(1, v(1)), m(2, v(1), v(0)))), with(metas, 2, lams(2, m(1, v(1)))))
	left := eq(0, m(1, c(z)), c(z))
	expectUnified(t, metas, list(left), metas, left)
	expectFailed(t, metas, list(eq(0, m(0), c(s, m(0)))), api.ErrClash)
}

// P9.1: case 1, sides that are the same

func TestSame(t *testing.T) {
	metas := some()
	for _, q := range []api.Equation{
		eq(0, c(z), c(z)),
		eq(0, m(0), m(0)),
		eq(0, m(1, c(z)), m(1, c(z))),
		eq(3, v(2), v(2)),
		// What they are does not matter.
		eq(0, c(99), c(99)),
		eq(0, v(7), v(7)),
		eq(0, c(z, c(z)), c(z, c(z))),
		eq(0, typ(), typ()),
		eq(0, arrows(1), arrows(1)),
		eq(0, lam(v(0)), lam(v(0))),
		{Ctx: nats(api.MaxCtx), A: lam(v(0)), B: lam(v(0)), Class: arrows(1)},
		{A: c(z), B: c(z), Class: arrows(1)},
		{A: c(z), B: c(z), Class: typ()},
	} {
		expectUnified(t, metas, list(q), metas)
	}
	// They may become the same.
	values := with(metas, 0, c(s, c(z)))
	expectUnified(t, values, list(eq(0, m(0), c(s, c(z)))), values)
	expectUnified(t, metas, list(eq(0, m(0), c(z)), eq(0, m(0), c(z))), with(metas, 0, c(z)))
	expectUnified(t, metas, nil, metas)
	expectUnified(t, nil, nil, nil)
}

// P9.1: case 2, a Class that is a TPi

func TestFunctions(t *testing.T) {
	metas := some()
	fun := func(a, b api.Term) api.Equation { return api.Equation{Ctx: nats(1), A: a, B: b, Class: arrows(1)} }
	expectUnified(t, metas, list(fun(lam(m(1, v(0))), lam(c(s, v(0))))), with(metas, 1, lam(c(s, v(0)))))
	expectUnified(t, metas, list(fun(lam(m(2, v(1), v(0))), lam(c(s, v(0))))), with(metas, 2, lams(2, c(s, v(0)))))
	expectFailed(t, metas, list(fun(lam(m(0)), lam(v(0)))), api.ErrScope)
	expectFailed(t, metas, list(fun(lam(c(z)), lam(v(0)))), api.ErrClash)
	for _, other := range []api.Term{c(z), v(0), m(0), m(1), typ(), c(nat), arrows(1)} {
		expectFailed(t, metas, list(fun(lam(v(0)), other)), api.ErrShape)
		expectFailed(t, metas, list(fun(other, lam(v(0)))), api.ErrShape)
	}
	expectFailed(t, metas, list(fun(c(z), c(s))), api.ErrShape)
	expectFailed(t, metas, list(fun(m(1), m(2))), api.ErrShape)
	// Two TLams, one below the other, and the context that they are in.
	two := api.Equation{A: lams(2, m(1, c(z))), B: lams(2, v(1)), Class: to(c(tm), c(tm), c(tm))}
	left := api.Equation{Ctx: copies(2, c(tm)), A: m(1, c(z)), B: v(1), Class: c(tm)}
	expectUnified(t, metas, list(two), metas, left)
	// The domain is resolved, and the body of the Class goes with it.
	metas = append(metas, solved(c(nat), c(s, m(0))))
	deep := api.Equation{A: lam(m(1, v(0))), B: lam(m(1, c(z))), Class: pi(c(vec, m(5)), c(vec, m(5)))}
	left = api.Equation{Ctx: []api.Term{c(vec, c(s, m(0)))}, A: m(1, v(0)), B: m(1, c(z)), Class: c(vec, c(s, m(0)))}
	expectUnified(t, metas, list(deep), metas, left)
}

// P9.1: case 3, a side that is no TApp

func TestNoHeads(t *testing.T) {
	for _, class := range []api.Term{c(nat), typ(), lam(c(z)), v(0), m(0)} {
		for _, a := range []api.Term{typ(), lam(v(0)), arrows(1)} {
			for _, b := range []api.Term{c(z), v(0), m(0), m(1, v(0)), lam(c(z)), pi(c(nat), typ())} {
				expectFailed(t, some(), list(api.Equation{A: a, B: b, Class: class}), api.ErrShape)
				expectFailed(t, some(), list(api.Equation{A: b, B: a, Class: class}), api.ErrShape)
			}
		}
	}
}

// P9.1: case 4, heads that are no metavariables

func TestSpines(t *testing.T) {
	metas := some()
	fun := api.Equation{Ctx: []api.Term{arrows(2), c(nat)}, A: v(1, m(0), m(1, v(0))), B: v(1, c(z), c(s, v(0))), Class: c(nat)}
	expectUnified(t, metas, list(fun), with(with(metas, 0, c(z)), 1, lam(c(s, v(0)))))
	add := func(a, b api.Term) api.Equation { return api.Equation{A: a, B: b, Class: typ()} }
	expectUnified(t, metas, list(add(c(plus, m(0), c(z), c(z)), c(plus, c(s, c(z)), c(z), c(z)))), with(metas, 0, c(s, c(z))))
	for want, wrong := range map[api.Errno][][2]api.Term{
		api.ErrClash: {
			{c(z), c(s, c(z))}, {c(z), v(0)}, {v(0), v(1)}, {v(0), c(0)}, {c(s, c(z)), v(2, c(z))}, {c(98), c(99)}, {v(98), v(99)}, {c(nat), c(tm)},
			{c(s, c(s, m(0))), c(s, c(z))},
		},
		api.ErrScope: {
			{c(99), c(99, c(z))}, {v(99), v(99, c(z))}, {v(1), v(1, c(z))}, {c(99, m(0)), c(99, c(z))},
		},
		api.ErrShape: {
			{c(s), c(s, c(z))}, {c(s, c(z), c(z)), c(s, c(z))}, {v(0, c(z)), v(0)}, {c(z, c(z)), c(z, m(0))}, {c(s, c(z), m(0)), c(s, c(z), c(z))},
			{v(0, m(0)), v(0, c(z))},
		},
	} {
		for _, w := range wrong {
			expectFailed(t, metas, list(eq(1, w[0], w[1])), want)
			expectFailed(t, metas, list(eq(1, w[1], w[0])), want)
		}
	}
}

// P9.1: case 4, the classes of the equations

func TestClasses(t *testing.T) {
	metas := some()
	stuck := m(1, c(z))
	// Each argument has the domain of the class as its Class, with the left side's objects in it.
	a, b := c(cons, m(0), stuck, m(4, lam(c(z)))), c(cons, stuck, c(z), m(4, lam(v(0))))
	p, err := unify.Unify(whole(), metas, list(api.Equation{Ctx: nats(1), A: a, B: b, Class: c(vec, c(s, m(0)))}))
	want := api.Problem{Metas: with(metas, 0, stuck), Left: list(
		eq(1, stuck, c(z)),
		api.Equation{Ctx: nats(1), A: m(4, lam(c(z))), B: m(4, lam(v(0))), Class: c(vec, stuck)},
	)}
	expectProblem(t, "Unify", p, err, want)
	// Of a variable: its type, as it is meant in the whole context, and not resolved before.
	metas = append(metas, solved(c(nat), c(s, c(z))))
	ctx := []api.Term{c(nat), pi(c(vec, v(0)), c(vec, m(5))), c(nat)}
	expectUnified(t, metas, list(api.Equation{Ctx: ctx, A: v(1, stuck), B: v(1, c(empty)), Class: c(nat)}), metas,
		api.Equation{Ctx: []api.Term{c(nat), pi(c(vec, v(0)), c(vec, c(s, c(z)))), c(nat)}, A: stuck, B: c(empty), Class: c(vec, v(2))})
	// A class of which nothing is left, or nothing that fits.
	expectFailed(t, metas, list(eq(0, c(s, c(z), m(0)), c(s, c(z), c(z)))), api.ErrShape)
	level := []api.Decl{decl("a", typ()), decl("b", to(c(0), typ())), decl("f", pi(lam(c(0)), c(0)))}
	_, err = unify.Unify(level, metas, list(api.Equation{A: c(2, m(0)), B: c(2, c(1)), Class: c(0)}))
	expect(t, "Unify", err, api.ErrLevel)
	far := []api.Term{c(vec, v(api.MaxN)), c(nat)}
	expectFailed(t, metas, list(api.Equation{Ctx: far, A: v(1, c(z)), B: v(1, m(0)), Class: c(nat)}), api.ErrFull)
	// That spines have different lengths comes before the class.
	expectFailed(t, metas, list(api.Equation{Ctx: far, A: v(1, c(z)), B: v(1), Class: c(nat)}), api.ErrShape)
	large := []api.Decl{decl("a", typ()), decl("f", to(c(0), c(0, copies(300, v(0))...), c(0)))}
	big := c(1, copies(2, c(0))...)
	_, err = unify.Unify(large, metas, list(api.Equation{A: c(1, big, m(0)), B: c(1, big, c(0)), Class: c(0)}))
	expect(t, "Unify", err, api.ErrFull)
}

// P9.1: the instance by the last object is made, too

func TestLastInstance(t *testing.T) {
	sig := []api.Decl{decl("a", typ()), decl("f", to(c(0), c(0, copies(300, v(0))...)))}
	big := c(0, copies(2, c(0))...)
	_, err := unify.Unify(sig, some(), list(api.Equation{A: c(1, big), B: c(1, m(0)), Class: c(0)}))
	expect(t, "Unify", err, api.ErrFull)
	_, err = unify.Unify(sig, some(), list(api.Equation{A: c(1, m(0)), B: c(1, big), Class: c(0)}))
	expect(t, "Unify", err, api.OK)
}

// P9.1: the order of the queue

func TestOrder(t *testing.T) {
	metas := some()
	clash, scope, shape := eq(1, c(z), c(s, c(z))), eq(1, m(0), v(0)), eq(1, typ(), c(z))
	expectFailed(t, metas, list(clash, scope), api.ErrClash)
	expectFailed(t, metas, list(scope, clash), api.ErrScope)
	expectFailed(t, metas, list(shape, scope, clash), api.ErrShape)
	// What an equation comes to is worked on before the other ones, in its order.
	pair := func(a, b api.Term) api.Term { return c(plus, a, b, c(z)) }
	inner := func(a, b, x, y api.Term) api.Equation { return eq(1, pair(a, x), pair(b, y)) }
	expectFailed(t, metas, list(inner(c(z), m(0), m(0), v(0)), shape), api.ErrClash)
	expectFailed(t, metas, list(inner(m(1, v(0)), c(z), m(0), v(0)), clash), api.ErrScope)
	expectFailed(t, metas, list(inner(c(s, m(0)), c(s, v(0)), c(z), c(s, c(z)))), api.ErrScope)
	// So is an equation for which a metavariable has been cut.
	cut := eq(2, m(0), c(plus, m(1, v(0)), v(0), c(z)))
	expectFailed(t, metas, list(cut, clash), api.ErrScope)
	// Those that are left wait behind all others until a metavariable gets a value.
	waits := eq(1, m(1, m(0)), c(z))
	expectUnified(t, metas, list(waits, waits), metas, waits, waits)
	solves := eq(1, m(1, v(0)), c(s, v(0)))
	expectUnified(t, metas, list(eq(0, m(1, c(z)), c(s, c(z))), solves), with(metas, 1, lam(c(s, v(0)))))
	// Here the value comes from the second equation; the third one is worked on before the first one again.
	expectFailed(t, metas, list(eq(0, m(1, c(z)), c(z)), solves, scope), api.ErrScope)
	expectFailed(t, metas, list(eq(0, m(1, c(z)), v(3)), eq(1, m(1, c(s, c(z))), c(z)), solves), api.ErrClash)
}

// P9.1: equations that are left, in their order, as they were resolved

func TestLeft(t *testing.T) {
	metas := some()
	first, second, third := eq(0, m(1, c(z)), c(z)), eq(1, m(2, v(0), v(0)), v(0)), eq(0, m(4, lam(c(z))), c(s, m(0)))
	expectUnified(t, metas, list(first, second, third), metas, first, second, third)
	expectUnified(t, metas, list(third, first, second), metas, third, first, second)
	// With a value they are worked on again.
	expectUnified(t, metas, list(first, third, eq(0, m(0), c(z))), with(metas, 0, c(z)), first, eq(0, m(4, lam(c(z))), c(s, c(z))))
	expectUnified(t, metas, list(first, eq(1, m(1, v(0)), c(z)), third), with(metas, 1, lam(c(z))), third)
	// All is resolved in the end: the context, too.
	metas = append(metas, solved(c(nat), m(0)))
	q := api.Equation{Ctx: []api.Term{c(vec, m(5)), c(nat)}, A: m(1, m(5)), B: v(0), Class: c(vec, m(5))}
	want := api.Equation{Ctx: []api.Term{c(vec, c(z)), c(nat)}, A: m(1, c(z)), B: v(0), Class: c(vec, c(z))}
	values := with(metas, 0, c(z))
	values[5].Value = c(z)
	expectUnified(t, metas, list(q, eq(0, m(0), c(z))), values, want)
	// A list is resolved before, also without any equation.
	unresolved := []api.Meta{solved(c(nat), c(s, m(1))), solved(c(nat), c(z)), hole(c(vec, m(0)))}
	resolved := []api.Meta{solved(c(nat), c(s, c(z))), solved(c(nat), c(z)), hole(c(vec, c(s, c(z))))}
	expectUnified(t, unresolved, nil, resolved)
}

// Results are new memory.

func TestMemory(t *testing.T) {
	metas := append(some(), solved(c(nat), c(s, m(0))), named("A", c(vec, c(s, c(z)))))
	ctx := []api.Term{c(vec, m(5)), c(nat), c(nat)}
	l := list(
		api.Equation{Ctx: ctx, A: c(s, m(1, v(0))), B: c(s, c(s, v(0))), Class: c(nat)},
		api.Equation{Ctx: ctx, A: m(2, m(5), m(5)), B: c(s, m(5)), Class: c(vec, m(5))},
		api.Equation{Ctx: ctx, A: m(3, v(0), v(1), c(z)), B: c(s, v(0)), Class: c(vec, m(5))},
		api.Equation{Ctx: ctx, A: m(3, v(0), v(1), v(0)), B: c(s, v(0)), Class: c(vec, c(s, c(z)))},
	)
	given := terms(api.Problem{Metas: metas, Left: l})
	p, err := unify.Unify(whole(), metas, l)
	if err != api.OK || len(p.Left) != 3 || !build.Apart(given, terms(p)) {
		t.Errorf("Unify = %v, %d shares memory", p, err)
	}
	a, b := c(plus, m(2, m(5), m(5)), c(s, c(z)), m(0)), c(plus, c(s, m(5)), c(s, c(z)), m(0))
	p, err = unify.Types(whole(), metas, ctx, a, b)
	if err != api.OK || len(p.Left) != 1 || !build.Apart(append(given, a, b), terms(p)) {
		t.Errorf("Types = %v, %d shares memory", p, err)
	}
	p, err = unify.Match(whole(), metas, 4, l[1:])
	if err != api.OK || len(p.Left) != 3 || !build.Apart(given, terms(p)) {
		t.Errorf("Match = %v, %d shares memory", p, err)
	}
}
